/- Steps on tiles: a new one, one copied, one laid into a table. -/
import Derived.Test.YtgonpaofickffaaTE
import Derived.StillTailTactics
namespace Go.Proofs.Ytgonpaofickffaa
open Go.RowKit Go.Maps
set_option linter.unusedVariables false

theorem Rep.look {w : World} {S : St} (h : Rep w S) {k : Nat} {p : Pl} (hk : S.ps[k]? = some p) (i j : Nat) : TileOr w (p.T i j) (match p.T i j with | none => 0 | some t => cnt S.ps (i, j) t) (match p.T i j with | none => fun _ => 0 | some t => S.pix t) := by
  cases e : p.T i j with
  | none => exact ⟨rfl, fun _ => rfl⟩
  | some t =>
    obtain ⟨h1, h2, -⟩ := h.at_ k p hk i j t e
    have := h.tile t h1
    rw [h2] at this
    exact this
theorem Rep.cells {w : World} {S : St} (h : Rep w S) {k : Nat} {p : Pl} (hk : S.ps[k]? = some p) : w.cell? ⟨p.pb, 0, none⟩ = some (.pointer (some ⟨S.A, 0, none⟩)) ∧ w.cell? ⟨p.pb, 1, none⟩ = some (.int .i64 (p.W : Int)) ∧ w.cell? ⟨p.pb, 2, none⟩ = some (.int .i64 (p.H : Int)) ∧ w.cell? ⟨p.pb, 3, none⟩ = some (.map (some p.mb)) := (h.plane k p hk).1.cells
theorem Rep.free {w : World} {S : St} (h : Rep w S) : w.cell? ⟨S.A, 0, none⟩ = some (.int .i64 (S.free : Int)) ∧ w.frozen? ⟨S.A, 0, none⟩ = false := by
  simp [World.cell?, World.frozen?, h.arena]
theorem Rep.lookup {w : World} {S : St} (h : Rep w S) {k : Nat} {p : Pl} (hk : S.ps[k]? = some p) (i j : Nat) (hi : i < 4294967296) (hj : j < 4294967296) : ∀ n, (Instr.lookup 61 (.map (some p.mb)) (.agg #[.int .i64 (i : Int), .int .i64 (j : Int)]) false).run Try.prog (w.drewN n) = .ok (tileV (p.T i j)) (w.drewN n) :=
  fun n => ((h.drewN n).plane k p hk).2.1.look i j hi hj

/-- A tile's pixels, as a value. -/
def pixL (f : Nat → Nat) : List Value := (List.range 256).map (fun k => .int .u32 (f k : Int))
theorem pixL_length (f : Nat → Nat) : (pixL f).length = 256 := by simp [pixL]
theorem pixL_get (f : Nat → Nat) (k : Nat) (hk : k < 256) : (pixL f)[k]? = some (.int .u32 (f k : Int)) := by simp [pixL, hk]
def zero76 : Array Value := (.int .i64 0 :: pixL (fun _ => 0)).toArray
theorem zero76_run (w : World) : (zeroValue 76).run Try.prog w = .ok (.agg zero76) w := by kernel_rfl
theorem zero76_ne : zero76 ≠ #[] := by simp [zero76]
theorem size74 : (Try.prog.info? 74).map (·.size) = some 256 := by kernel_rfl
theorem size76 : (Try.prog.info? 76).map (·.size) = some 257 := by kernel_rfl
theorem zero76_size : zero76.size = 257 := by simp [zero76, pixL_length]
theorem zero76_set : (zero76.setIfInBounds 0 (.int .i64 1)).size = 257 ∧ (zero76.setIfInBounds 0 (.int .i64 1))[0]? = some (.int .i64 ((1 : Nat) : Int)) := by
  refine ⟨by simp [zero76_size], ?_⟩
  rw [Array.getElem?_setIfInBounds_self_of_lt (by rw [zero76_size]; omega)]
  rfl
theorem new_tile {w : World} {t : Nat} (h : w.heap[t]? = some (.cells (zero76.setIfInBounds 0 (.int .i64 1)) 76 (0, 0))) : TileAt w t 1 (fun _ => 0) := by
  refine ⟨_, h, zero76_set.1, zero76_set.2, fun k hk => ?_⟩
  rw [Array.getElem?_setIfInBounds_ne (by omega)]
  simp only [zero76, List.getElem?_toArray, List.getElem?_cons_succ]
  exact pixL_get _ k hk

section
variable {ops : Array Oper} {rest : List Oper} {o : Oper} {a : Act} {w : World} {Q : Exit → Act → World → Prop}
theorem run_load74 {t n : Nat} {f : Nat → Nat} (h : TileAt w t n f) : (loadVar 74 ⟨t, 1, none⟩).run Try.prog w = .ok (.agg (pixL f).toArray) w := by
  have hl : (loadCells ⟨t, 1, none⟩ 256).run Try.prog w = .ok (pixL f).toArray w := run_loadCells w ⟨t, 1, none⟩ 256 (fun k => .int .u32 (f k : Int)) (fun k hk => by
    have hadd : (⟨t, 1, none⟩ : Addr).add k = ⟨t, 1 + k, none⟩ := by unfold Addr.add; split <;> simp_all
    rw [hadd]
    exact (h.cell hk).1)
  have hagg : (isAgg 74).run Try.prog w = .ok true w := by
    unfold isAgg
    rw [Sem.run_bind, run_underlying Try.underlying74 w]
    rfl
  have hs := size74
  cases hq : Try.prog.info? 74 with
  | none => simp [hq] at hs
  | some i =>
    have hs : i.size = 256 := by simpa [hq] using hs
    simp [loadVar, Sem.run_bind, hagg, sizeOf, typeInfo, hq, hs, hl]
theorem wpList_load74 (hgd : o.guard = none) (x : Operand) (ho : o.op = .load 74 x) (t n : Nat) (f : Nat → Nat) (hx : a.eval x = .pointer (some ⟨t, 1, none⟩)) (ht : TileAt w t n f) (h : wpList Try.prog ops Q rest (a.put o.dst (.agg (pixL f).toArray)) w) : wpList Try.prog ops Q (o :: rest) a w := by
  refine wpList_plain hgd fun K hK => ?_
  unfold Oper.wp execOp
  simp only [ho, hx, Instr.loadAt, Instr.sureAddr, Sem.run_bind, Sem.run_pure, Result.andThen_ok, run_load74 ht]
  exact hK _ _ h
theorem storeCells_one (t : Nat) : ∀ (vs : List Value) (i : Nat), storeCells ⟨t, 1, none⟩ vs i = storeCells ⟨t, 0, none⟩ vs (i + 1)
  | [], i => rfl
  | v :: r, i => by
    have h1 : (⟨t, 1, none⟩ : Addr).add i = (⟨t, 0, none⟩ : Addr).add (i + 1) := by
      unfold Addr.add
      split
      · rename_i e; subst e; simp
      · simp; omega
    simp only [storeCells, h1, storeCells_one t r (i + 1)]
theorem run_store74 {t : Nat} {c : Array Value} {f : Nat → Nat} (h : w.heap[t]? = some (.cells c 76 (0, 0))) (hc : c.size = 257) : (storeVar 74 ⟨t, 1, none⟩ (.agg (pixL f).toArray)).run Try.prog w = .ok () (w.setRow t (c.toList.take 1 ++ pixL f).toArray) := by
  have h1 := run_storeCells_from (P := Try.prog) t 76 (pixL f) 1 c w h (by rw [pixL_length]; omega) (fun v hv => by
    obtain ⟨k, -, rfl⟩ := List.mem_map.1 hv
    rfl)
  rw [← storeCells_one t (pixL f) 0] at h1
  have hs := size74
  cases hq : Try.prog.info? 74 with
  | none => simp [hq] at hs
  | some i =>
    have hs : i.size = 256 := by simpa [hq] using hs
    simp [storeVar, sizeOf, typeInfo, hq, Value.cells, hs, pixL_length, h1]
theorem wpList_store74 (hgd : o.guard = none) (x y : Operand) (ho : o.op = .store 74 x y) (t : Nat) (f : Nat → Nat) (c : Array Value) (hx : a.eval x = .pointer (some ⟨t, 1, none⟩)) (hy : a.eval y = .agg (pixL f).toArray) (hh : w.heap[t]? = some (.cells c 76 (0, 0))) (hc : c.size = 257)
    (h : wpList Try.prog ops Q rest (a.put o.dst undef) (w.setRow t (c.toList.take 1 ++ pixL f).toArray)) : wpList Try.prog ops Q (o :: rest) a w := by
  refine wpList_plain hgd fun K hK => ?_
  unfold Oper.wp execOp
  simp only [ho, hx, hy, Instr.storeAt, Instr.sureAddr, Sem.run_bind, Sem.run_pure, Result.andThen_ok, run_store74 hh hc]
  exact hK _ _ h
theorem wpList_set61 (hgd : o.guard = none) (x y z : Operand) (ho : o.op = .mapUpdate 61 x y z) (m : Nat) (T : Nat → Nat → Option Nat) (L : List (Nat × Nat)) (i j t : Nat) (hx : a.eval x = .map (some m)) (hy : a.eval y = .agg #[.int .i64 (i : Int), .int .i64 (j : Int)]) (hz : a.eval z = .pointer (some ⟨t, 0, none⟩))
    (hT : Tab w m T L) (hL : L.length < 16777216) (hi : i < 2048) (hj : j < 2048)
    (h : ∀ w', Tab w' m (upd T i j t) (if T i j = none then L ++ [(i, j)] else L) → w.grownBy w' (some m) → w'.heap.size = w.heap.size → wpList Try.prog ops Q rest (a.put o.dst undef) w') : wpList Try.prog ops Q (o :: rest) a w := by
  obtain ⟨w', hrun, h1, h2, h3⟩ := hT.set hL i j t hi hj
  refine wpList_plain hgd fun K hK => ?_
  unfold Oper.wp
  simp [execOp, ho, hx, hy, hz, hrun, Result.andThen]
  exact hK _ _ (h w' h1 h2 h3)
end
theorem setRow_tile {w : World} {t : Nat} {c : Array Value} {f : Nat → Nat} (h : w.heap[t]? = some (.cells c 76 (0, 0))) {n : Nat} (hc : c.size = 257) (h0 : c[0]? = some (.int .i64 (n : Int))) : TileAt (w.setRow t (c.toList.take 1 ++ pixL f).toArray) t n f := by
  have hlen : (c.toList.take 1).length = 1 := by simp; omega
  refine ⟨_, setRow_heap w t c _ 76 (0, 0) h, by simp [pixL_length]; omega, ?_, fun k hk => ?_⟩
  · simp only [List.getElem?_toArray]
    rw [List.getElem?_append_left (by omega), List.getElem?_take_of_lt (by omega)]
    simpa using h0
  · simp only [List.getElem?_toArray]
    rw [List.getElem?_append_right (by omega), hlen, Nat.add_sub_cancel]
    exact pixL_get f k hk
theorem setRow_other {w : World} {t b : Nat} {c : Array Value} (h : b ≠ t) : (w.setRow t c).heap[b]? = w.heap[b]? := by
  simp only [World.setRow, Array.getElem?_modify]
  rw [if_neg (fun e => h e.symm)]
theorem setRow_size (w : World) (t : Nat) (c : Array Value) : (w.setRow t c).heap.size = w.heap.size := by simp [World.setRow]
theorem Keeps.setRow {S : Nat → Prop} {a w : World} (h : Keeps S a w) {t : Nat} (hp : t < a.heap.size → S t) (c : Array Value) : Keeps S a (w.setRow t c) :=
  ⟨h.os, h.tape, h.output, by rw [setRow_size]; exact h.size, fun i hi hn => (setRow_other (fun e => hn (by subst e; exact hp hi))).trans (h.block i hi hn)⟩

set_option maxHeartbeats 1600000 in
set_option maxRecDepth 100000 in
theorem own_alone (w : World) (S : St) (h : Rep w S) (k : Nat) (p : Pl) (hk : S.ps[k]? = some p) (i j : Nat) (hi : i < 4294967296) (hj : j < 4294967296) (t : Nat) (ht : p.T i j = some t) (h1 : cnt S.ps (i, j) t = 1) :
    Calls Try.prog 33 #[.pointer (some ⟨p.pb, 0, none⟩), .agg #[.int .i64 (i : Int), .int .i64 (j : Int)]] w fun e w' => e = .returned (.pointer (some ⟨t, 0, none⟩)) ∧ Keeps none' w w' := by
  have H := Lib.hid h
  have HK := Lib.hid hk
  have HT := Lib.hid ht
  have H1 := Lib.hid h1
  clear h hk ht h1
  go_enter Try.func33, Try.ntmps33
  go_wp2_with fail
  obtain ⟨w1, hw1⟩ : ∃ w1, w1 = w.alloc (.cells #[.int .i64 (i : Int), .int .i64 (j : Int)] 70) := ⟨_, rfl⟩
  have W0 := Lib.hid (show Keeps none' w w1 by rw [hw1]; exact (Keeps.refl none' w).alloc _)
  have c0 : w1.cell? ⟨w.heap.size, 0, none⟩ = some (.int .i64 (i : Int)) := by rw [hw1]; exact cell_at rfl
  have c1 : w1.cell? ⟨w.heap.size, 1, none⟩ = some (.int .i64 (j : Int)) := by rw [hw1]; exact cell_at rfl
  rw [← hw1]
  clear hw1
  generalize w.heap.size = B at *
  have H := Lib.hid (H.out.later W0.out)
  obtain ⟨-, -, -, x3⟩ := H.out.cells HK.out
  have lk := H.out.lookup HK.out i j hi hj
  rw [HT.out] at lk
  have lk0 := lk 0
  simp only [tileV] at lk lk0
  go_quiet (fail)
  have AL := (H.out.drewN nq).look HK.out i j
  rw [HT.out] at AL
  simp only [H1.out] at AL
  have AL := Lib.hid (alone_any _ _ _ _ AL)
  simp only [tileV, decide_true] at AL
  go_wp2_with (go_at_call 32; refine AL.out.mono ?_; rintro e w' ⟨rfl, rfl⟩)
  go_ret
  exact ⟨rfl, W0.out.drewN nq⟩
/-- What is left when a tile was taken and laid into the table. -/
theorem own_end {w2 w5 w6 : World} {S : St} (h : Rep w2 S) {k : Nat} {p : Pl} (hk : S.ps[k]? = some p) {i j t' : Nat} (hi : i * 16 < p.W) (hj : j * 16 < p.H) {g : Nat → Nat} (hg : ∀ k, g k ≤ 4294967295)
    (hroom : S.live.length < S.cap) (hna : ¬ aloneP S p i j) (ht' : w2.heap.size ≤ t') (hA : w5.heap[S.A]? = some (.cells #[.int .i64 ((S.free - 1 : Nat) : Int)] 59 (0, 0))) (hT : TileAt w5 t' 1 g)
    (hold : ∀ t, p.T i j = some t → TileAt w5 t (cnt S.ps (i, j) t - 1) (S.pix t)) (hk5 : Keeps (fun b => b = S.A ∨ some b = p.T i j) w2 w5)
    (hTab : Tab w6 p.mb (upd p.T i j t') (if p.T i j = none then p.L ++ [(i, j)] else p.L)) (hgr : w5.grownBy w6 (some p.mb)) : Rep w6 (S.own k p i j t' g) ∧ Keeps (Foot S) w2 w6 := by
  have hb : ∀ b, b < w5.heap.size → b ≠ p.mb → w6.heap[b]? = w5.heap[b]? := fun b h1 h2 => hgr.block b h1 (fun e => h2 (by cases e; rfl))
  refine ⟨h.own hk hi hj hg hroom hna ht' (hT.keep (hb _ hT.lt ?_)) hTab ((hb _ (lt_of_block hA) (h.arena_ne k p hk).1).trans hA) (fun t e => (hold t e).keep (hb _ (hold t e).lt ((h.tile_ne (h.at_ k p hk i j t e).1).2 k p hk).1)) (fun b h1 h2 h3 h4 => ?_), ?_⟩
  · have := (h.plane k p hk).2.1.lt
    omega
  · have hlt := h.lt h1
    rw [hb b (Nat.lt_of_lt_of_le hlt hk5.size) h3]
    exact hk5.block b hlt (fun e => e.elim h2 h4)
  · refine (hk5.mono (S1 := Foot S) (fun b _ e => ?_)).grown hgr (fun b _ e => ?_)
    · rcases e with rfl | e
      · exact Or.inl rfl
      · exact Or.inr (Or.inr (h.at_ k p hk i j b e.symm).1)
    · cases e; exact Or.inr (Or.inl ⟨k, p, hk, Or.inl rfl⟩)
set_option maxHeartbeats 1600000 in
set_option maxRecDepth 100000 in
theorem own_new (w : World) (S : St) (h : Rep w S) (k : Nat) (p : Pl) (hk : S.ps[k]? = some p) (i j : Nat) (hi : i * 16 < p.W) (hj : j * 16 < p.H) (ht : p.T i j = none) (hroom : S.live.length < S.cap) (hL : p.L.length < 16777216) :
    Calls Try.prog 33 #[.pointer (some ⟨p.pb, 0, none⟩), .agg #[.int .i64 (i : Int), .int .i64 (j : Int)]] w fun e w' => ∃ t', w.heap.size ≤ t' ∧ e = .returned (.pointer (some ⟨t', 0, none⟩)) ∧ Rep w' (S.own k p i j t' (fun _ => 0)) ∧ Keeps (Foot S) w w' := by
  have hW : p.W ≤ 32768 ∧ p.H ≤ 32768 := (h.plane k p hk).2.2
  have hi2 : i < 2048 := by omega
  have hj2 : j < 2048 := by omega
  have H := Lib.hid h
  have HK := Lib.hid hk
  have HT := Lib.hid ht
  have HC := Lib.hid h.cap
  have hfr : S.free = S.cap - S.live.length := rfl
  have e1 : wrap64 ((S.free : Int) - 1) = ((S.free - 1 : Nat) : Int) := by
    have := h.cap
    rw [wrap64_nat' _ (by omega) (by omega)]; omega
  have HF := Lib.hid hfr
  clear h hk ht hfr
  go_enter Try.func33, Try.ntmps33
  go_wp2_with fail
  obtain ⟨w1, hw1⟩ : ∃ w1, w1 = w.alloc (.cells #[.int .i64 (i : Int), .int .i64 (j : Int)] 70) := ⟨_, rfl⟩
  have W0 := Lib.hid (show Keeps none' w w1 by rw [hw1]; exact (Keeps.refl none' w).alloc _)
  have c0 : w1.cell? ⟨w.heap.size, 0, none⟩ = some (.int .i64 (i : Int)) := by rw [hw1]; exact cell_at rfl
  have c1 : w1.cell? ⟨w.heap.size, 1, none⟩ = some (.int .i64 (j : Int)) := by rw [hw1]; exact cell_at rfl
  have hsz : w1.heap.size = w.heap.size + 1 := by rw [hw1]; simp
  rw [← hw1]
  clear hw1
  obtain ⟨B, hB⟩ : ∃ B, B = w.heap.size := ⟨_, rfl⟩
  rw [← hB] at c0 c1 hsz ⊢
  have HB := Lib.hid (And.intro hB hsz)
  clear hB hsz
  have H := Lib.hid (H.out.later W0.out)
  obtain ⟨-, -, -, x3⟩ := H.out.cells HK.out
  have lk := H.out.lookup HK.out i j (by omega) (by omega)
  rw [HT.out] at lk
  have lk0 := lk 0
  simp only [tileV] at lk lk0
  go_quiet (fail)
  have AL := (H.out.drewN nq).look HK.out i j
  rw [HT.out] at AL
  have AL := Lib.hid (alone_any _ _ _ _ AL)
  simp only [tileV] at AL
  obtain ⟨w2, hw2⟩ : ∃ w2, w2 = w1.drewN nq := ⟨_, rfl⟩
  have W2 := Lib.hid (show Keeps none' w w2 by rw [hw2]; exact W0.out.drewN nq)
  have H := Lib.hid (show Rep w2 S by rw [hw2]; exact H.out.drewN nq)
  have HB := Lib.hid (show B = w.heap.size ∧ w2.heap.size = B + 1 by rw [hw2]; exact HB.out)
  have c0 : w2.cell? ⟨B, 0, none⟩ = some (.int .i64 (i : Int)) := by rw [hw2]; exact c0
  have c1 : w2.cell? ⟨B, 1, none⟩ = some (.int .i64 (j : Int)) := by rw [hw2]; exact c1
  have x3 : w2.cell? ⟨p.pb, 3, none⟩ = some (.map (some p.mb)) := by rw [hw2]; exact x3
  rw [← hw2] at AL ⊢
  clear hw2 lk lk0 W0
  have z0 := zero76_run
  have z1 := zero76_ne
  have z2 := (H.out.free).1
  have z3 := (H.out.free).2
  have x0 := (H.out.cells HK.out).1
  have l1 : p.pb < w2.heap.size := (H.out.plane k p HK.out).1.lt
  have l2 : S.A < w2.heap.size := H.out.lt (Or.inl rfl)
  have l3 : B < w2.heap.size := by have := HB.out; omega
  have hneA : S.A ≠ p.pb := (H.out.arena_ne k p HK.out).2
  have hneB : S.A ≠ B := fun e => by
    have h1 := H.out.arena
    rw [e] at h1
    simp [World.cell?, h1] at c1
  go_wp2_with (first | (go_at_call 32; refine AL.out.mono ?_; rintro e w' ⟨rfl, rfl⟩))
  obtain ⟨w5, hw5⟩ : ∃ w5, w5 = (w'.setCell ⟨S.A, 0, none⟩ (.int .i64 ((S.free - 1 : Nat) : Int))).alloc (.cells (zero76.setIfInBounds 0 (.int .i64 1)) 76) := ⟨_, rfl⟩
  have hs5 : (w'.setCell ⟨S.A, 0, none⟩ (.int .i64 ((S.free - 1 : Nat) : Int))).heap.size = w'.heap.size := by simp [World.setCell]
  have E5 : Keeps (fun b => b = S.A ∨ some b = p.T i j) w' w5 := by rw [hw5]; exact ((Keeps.refl _ _).setCell (fun _ => Or.inl rfl) _).alloc _
  have A5 : w5.heap[S.A]? = some (.cells #[.int .i64 ((S.free - 1 : Nat) : Int)] 59 (0, 0)) := by
    rw [hw5, Below.heap_alloc _ _ _ (by rw [hs5]; exact l2)]
    have := block_set H.out.arena (i := 0) (.int .i64 ((S.free - 1 : Nat) : Int))
    simpa using this
  have T5 : TileAt w5 w'.heap.size 1 (fun _ => 0) := new_tile (by rw [hw5, ← hs5]; exact heap_alloc_new _ _)
  have y3 : w5.cell? ⟨p.pb, 3, none⟩ = some (.map (some p.mb)) := (World.cell?_of_block (w := w') (E5.block _ l1 (by rw [HT.out]; simp; exact fun e => hneA e.symm))).trans x3
  have y0 : w5.cell? ⟨B, 0, none⟩ = some (.int .i64 (i : Int)) := (World.cell?_of_block (w := w') (E5.block _ l3 (by rw [HT.out]; simp; exact fun e => hneB e.symm))).trans c0
  have y1 : w5.cell? ⟨B, 1, none⟩ = some (.int .i64 (j : Int)) := (World.cell?_of_block (w := w') (E5.block _ l3 (by rw [HT.out]; simp; exact fun e => hneB e.symm))).trans c1
  have TB := Lib.hid (((H.out.plane k p HK.out).2.1.keep (E5.block _ (H.out.plane k p HK.out).2.1.lt (by rw [HT.out]; simp; exact (H.out.arena_ne k p HK.out).1.symm))).keep (w' := w5.drew) rfl)
  have E5 := Lib.hid E5
  have A5 := Lib.hid A5
  have T5 := Lib.hid T5
  rw [← hw5]
  clear hw5 x0 x3 c0 c1 z0 z1 z2 z3 l1 l2 l3 hneA hneB hs5
  go_still_tail 6, (by kernel_rfl)
  change wpList _ _ _ _ _ w5.drew
  go_wp2_with (refine wpList_set61 rfl _ _ _ rfl p.mb p.T p.L i j w'.heap.size rfl rfl rfl TB.out hL hi2 hj2 ?_; intro w6 ht6 hg6 hs6)
  go_ret
  refine ⟨w'.heap.size, by have := W2.out.size; omega, rfl, ?_⟩
  obtain ⟨q1, q2⟩ := own_end H.out HK.out hi hj (g := fun _ => 0) (fun _ => by omega) hroom (by rintro ⟨t, e, -⟩; rw [HT.out] at e; cases e) (Nat.le_refl _) (w5 := w5) A5.out T5.out (fun t e => by rw [HT.out] at e; cases e) E5.out ht6 ⟨hg6.os, hg6.tape, hg6.output, hg6.size, hg6.block⟩
  exact ⟨q1, (W2.out.mono (S1 := Foot S) (fun b _ h => h.elim)).trans q2 (fun b _ h => h)⟩
end Go.Proofs.Ytgonpaofickffaa
