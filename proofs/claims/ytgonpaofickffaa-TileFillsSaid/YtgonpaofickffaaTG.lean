/- A tile that several planes have, copied for one. -/
import Derived.Test.YtgonpaofickffaaTF
namespace Go.Proofs.Ytgonpaofickffaa
open Go.RowKit Go.Maps
set_option linter.unusedVariables false

set_option maxHeartbeats 1600000 in
set_option maxRecDepth 100000 in
theorem own_copy (w : World) (S : St) (h : Rep w S) (k : Nat) (p : Pl) (hk : S.ps[k]? = some p) (i j : Nat) (hi : i * 16 < p.W) (hj : j * 16 < p.H) (t : Nat) (ht : p.T i j = some t) (h1 : cnt S.ps (i, j) t ≠ 1) (hroom : S.live.length < S.cap) (hL : p.L.length < 16777216) :
    Calls Try.prog 33 #[.pointer (some ⟨p.pb, 0, none⟩), .agg #[.int .i64 (i : Int), .int .i64 (j : Int)]] w fun e w' => ∃ t', w.heap.size ≤ t' ∧ e = .returned (.pointer (some ⟨t', 0, none⟩)) ∧ Rep w' (S.own k p i j t' (S.pix t)) ∧ Keeps (Foot S) w w' := by
  have hW : p.W ≤ 32768 ∧ p.H ≤ 32768 := (h.plane k p hk).2.2
  have hi2 : i < 2048 := by omega
  have hj2 : j < 2048 := by omega
  have H := Lib.hid h
  have HK := Lib.hid hk
  have HT := Lib.hid ht
  have HC := Lib.hid h.cap
  have hfr : S.free = S.cap - S.live.length := rfl
  have e1 : wrap64 ((S.free : Int) - 1) = ((S.free - 1 : Nat) : Int) := by
    have := h.cap
    rw [wrap64_nat' _ (by omega) (by omega)]; omega
  have HF := Lib.hid hfr
  have htl := h.at_ k p hk i j t ht
  have hcu := h.used t htl.1
  rw [htl.2.1] at hcu
  have hcm : cnt S.ps (i, j) t ≤ 1048576 := Nat.le_trans (List.countP_le_length) h.many
  obtain ⟨c, hc⟩ : ∃ c, c = cnt S.ps (i, j) t := ⟨_, rfl⟩
  rw [← hc] at h1 hcu hcm
  have e2 : wrap64 ((c : Int) - 1) = ((c - 1 : Nat) : Int) := by
    rw [wrap64_nat' _ (by omega) (by omega)]; omega
  have HC1 := Lib.hid hc
  have HTL := Lib.hid htl
  have HLT := Lib.hid (h.tile t htl.1).lt
  have hc1 : decide (c = 1) = false := by simpa using h1
  clear h hk ht hfr hc htl h1
  go_enter Try.func33, Try.ntmps33
  go_wp2_with fail
  obtain ⟨w1, hw1⟩ : ∃ w1, w1 = w.alloc (.cells #[.int .i64 (i : Int), .int .i64 (j : Int)] 70) := ⟨_, rfl⟩
  have W0 := Lib.hid (show Keeps none' w w1 by rw [hw1]; exact (Keeps.refl none' w).alloc _)
  have c0 : w1.cell? ⟨w.heap.size, 0, none⟩ = some (.int .i64 (i : Int)) := by rw [hw1]; exact cell_at rfl
  have c1 : w1.cell? ⟨w.heap.size, 1, none⟩ = some (.int .i64 (j : Int)) := by rw [hw1]; exact cell_at rfl
  have hsz : w1.heap.size = w.heap.size + 1 := by rw [hw1]; simp
  rw [← hw1]
  clear hw1
  obtain ⟨B, hB⟩ : ∃ B, B = w.heap.size := ⟨_, rfl⟩
  rw [← hB] at c0 c1 hsz ⊢
  have HB := Lib.hid (And.intro hB hsz)
  clear hB hsz
  have H := Lib.hid (H.out.later W0.out)
  obtain ⟨-, -, -, x3⟩ := H.out.cells HK.out
  have lk := H.out.lookup HK.out i j (by omega) (by omega)
  rw [HT.out] at lk
  have lk0 := lk 0
  simp only [tileV] at lk lk0
  go_quiet (fail)
  have AL := (H.out.drewN nq).look HK.out i j
  rw [HT.out] at AL
  simp only [← HC1.out] at AL
  have AL := Lib.hid (alone_any _ _ _ _ AL)
  simp only [tileV, hc1] at AL
  obtain ⟨w2, hw2⟩ : ∃ w2, w2 = w1.drewN nq := ⟨_, rfl⟩
  have W2 := Lib.hid (show Keeps none' w w2 by rw [hw2]; exact W0.out.drewN nq)
  have H := Lib.hid (show Rep w2 S by rw [hw2]; exact H.out.drewN nq)
  have HB := Lib.hid (show B = w.heap.size ∧ w2.heap.size = B + 1 by rw [hw2]; exact HB.out)
  have c0 : w2.cell? ⟨B, 0, none⟩ = some (.int .i64 (i : Int)) := by rw [hw2]; exact c0
  have c1 : w2.cell? ⟨B, 1, none⟩ = some (.int .i64 (j : Int)) := by rw [hw2]; exact c1
  have x3 : w2.cell? ⟨p.pb, 3, none⟩ = some (.map (some p.mb)) := by rw [hw2]; exact x3
  rw [← hw2] at AL ⊢
  clear hw2 lk lk0 W0
  have z0 := zero76_run
  have z1 := zero76_ne
  have z2 := (H.out.free).1
  have z3 := (H.out.free).2
  have x0 := (H.out.cells HK.out).1
  have l1 : p.pb < w2.heap.size := (H.out.plane k p HK.out).1.lt
  have l2 : S.A < w2.heap.size := H.out.lt (Or.inl rfl)
  have l3 : B < w2.heap.size := by have := HB.out; omega
  have hneA : S.A ≠ p.pb := (H.out.arena_ne k p HK.out).2
  have hneB : S.A ≠ B := fun e => by
    have h1 := H.out.arena
    rw [e] at h1
    simp [World.cell?, h1] at c1
  have TO := H.out.tile t HTL.out.1
  rw [HTL.out.2.1, ← HC1.out] at TO
  have htA : t ≠ S.A := (H.out.tile_ne HTL.out.1).1
  have htp : t ≠ p.pb := ((H.out.tile_ne HTL.out.1).2 k p HK.out).2
  have htB : t ≠ B := fun e => by
    obtain ⟨cc, h1, h2, -⟩ := TO
    have hb := HB.out
    have hk2 := W2.out
    rw [e] at h1
    simp [World.cell?, h1] at c0 c1
    have := H.out.lt (Or.inr (Or.inr HTL.out.1))
    exact absurd (HLT.out) (by omega)
  obtain ⟨w3, hw3⟩ : ∃ w3, w3 = w2.alloc (.cells (zero76.setIfInBounds 0 (.int .i64 1)) 76) := ⟨_, rfl⟩
  obtain ⟨w4, hw4⟩ : ∃ w4, w4 = w3.setRow w2.heap.size (((zero76.setIfInBounds 0 (.int .i64 1)).toList.take 1) ++ pixL (S.pix t)).toArray := ⟨_, rfl⟩
  have hnew : w3.heap[w2.heap.size]? = some (.cells (zero76.setIfInBounds 0 (.int .i64 1)) 76 (0, 0)) := by rw [hw3]; exact heap_alloc_new _ _
  have hst : (storeCells ⟨w2.heap.size, 1, none⟩ (pixL (S.pix t))).run Try.prog (w2.alloc (.cells (zero76.setIfInBounds 0 (.int .i64 1)) 76)) = .ok () w4 := by
    rw [← hw3, hw4, storeCells_one]
    exact run_storeCells_from (P := Try.prog) w2.heap.size 76 (pixL (S.pix t)) 1 _ w3 hnew (by rw [pixL_length]; have := zero76_set.1; omega) (fun v hv => by
      obtain ⟨k, -, rfl⟩ := List.mem_map.1 hv
      rfl)
  have T4 : TileAt w4 w2.heap.size 1 (S.pix t) := by rw [hw4]; exact setRow_tile hnew zero76_set.1 zero76_set.2
  have E4 : Keeps none' w2 w4 := by rw [hw4, hw3]; exact ((Keeps.refl none' w2).alloc _).setRow (fun h => absurd h (Nat.lt_irrefl _)) _
  have S4 : w4.heap.size = w2.heap.size + 1 := by rw [hw4, hw3, setRow_size]; simp
  have TO4 := TO.later E4
  obtain ⟨t0, t1⟩ := TO4.count
  have A4 := (E4.later _ l2).trans H.out.arena
  have a0 : w4.cell? ⟨S.A, 0, none⟩ = some (.int .i64 (S.free : Int)) := by simp [World.cell?, A4]
  have a1 : w4.frozen? ⟨S.A, 0, none⟩ = false := by simp [World.frozen?, A4]
  have b0 := E4.cell x0
  have b3 := E4.cell x3
  have TO := Lib.hid TO
  have htA' : S.A ≠ t := fun e => htA e.symm
  have HX := Lib.hid (And.intro T4 (And.intro E4 (And.intro S4 (And.intro TO4 A4))))
  clear T4 E4 S4 TO4 A4 hw3 hw4 hnew x0 x3 z2 z3
  go_wp2_with (first | (go_at_call 32; refine AL.out.mono ?_; rintro e w' ⟨rfl, rfl⟩) | (refine wpList_load74 rfl _ rfl t c (S.pix t) rfl (TO.out.keep (Below.heap_alloc _ _ _ TO.out.lt)) ?_))
  rw [show ((c : Int) - 1) = ((c - 1 : Nat) : Int) by omega]
  obtain ⟨T4, E4, S4, TO4, A4⟩ := HX.out
  obtain ⟨w5, hw5⟩ : ∃ w5, w5 = (w4.setCell ⟨t, 0, none⟩ (.int .i64 ((c - 1 : Nat) : Int))).setCell ⟨S.A, 0, none⟩ (.int .i64 ((S.free - 1 : Nat) : Int)) := ⟨_, rfl⟩
  have hnt : w'.heap.size ≠ t := fun e => by have := H.out.lt (Or.inr (Or.inr HTL.out.1)); omega
  have hnA : w'.heap.size ≠ S.A := fun e => by omega
  have E5 : Keeps (fun b => b = S.A ∨ some b = p.T i j) w' w5 := by
    rw [hw5, HT.out]
    exact ((E4.mono (S1 := fun b => b = S.A ∨ some b = some t) (fun b _ h => h.elim)).setCell (fun _ => Or.inr rfl) _).setCell (fun _ => Or.inl rfl) _
  have A5 : w5.heap[S.A]? = some (.cells #[.int .i64 ((S.free - 1 : Nat) : Int)] 59 (0, 0)) := by
    have h1 : (w4.setCell ⟨t, 0, none⟩ (.int .i64 ((c - 1 : Nat) : Int))).heap[S.A]? = some (.cells #[.int .i64 (S.free : Int)] 59 (0, 0)) := (Below.heap_setCell _ _ _ _ htA').trans A4
    have := block_set h1 (i := 0) (.int .i64 ((S.free - 1 : Nat) : Int))
    rw [hw5]
    simpa using this
  have T5 : TileAt w5 w'.heap.size 1 (S.pix t) := by
    rw [hw5]
    exact (T4.keep (Below.heap_setCell _ _ _ _ hnt)).keep (Below.heap_setCell _ _ _ _ hnA)
  have O5 : TileAt w5 t (c - 1) (S.pix t) := by
    rw [hw5]
    exact (TO4.setCount (c - 1)).keep (Below.heap_setCell _ _ _ _ htA)
  have hX : ∀ b : Nat, b ≠ S.A → b ≠ t → ¬ (b = S.A ∨ some b = p.T i j) := fun b h1 h2 h => by
    rw [HT.out] at h
    rcases h with h | h
    · exact h1 h
    · cases h; exact h2 rfl
  have y3 : w5.cell? ⟨p.pb, 3, none⟩ = some (.map (some p.mb)) := (World.cell?_of_block (w := w') (E5.block _ l1 (hX _ hneA.symm (fun e => htp e.symm)))).trans (H.out.cells HK.out).2.2.2
  have y0 : w5.cell? ⟨B, 0, none⟩ = some (.int .i64 (i : Int)) := (World.cell?_of_block (w := w') (E5.block _ l3 (hX _ hneB.symm (fun e => htB e.symm)))).trans c0
  have y1 : w5.cell? ⟨B, 1, none⟩ = some (.int .i64 (j : Int)) := (World.cell?_of_block (w := w') (E5.block _ l3 (hX _ hneB.symm (fun e => htB e.symm)))).trans c1
  have TB := Lib.hid (((H.out.plane k p HK.out).2.1.keep (E5.block _ (H.out.plane k p HK.out).2.1.lt (hX _ (H.out.arena_ne k p HK.out).1.symm (fun e => ((H.out.tile_ne HTL.out.1).2 k p HK.out).1 e.symm)))).keep (w' := w5.drew) rfl)
  have E5 := Lib.hid E5
  have A5 := Lib.hid A5
  have T5 := Lib.hid (And.intro T5 O5)
  rw [← hw5]
  clear hw5 c0 c1 z0 z1 l1 l2 l3 hneA hneB hst t0 t1 a0 a1 b0 b3 HX T4 E4 S4 TO4 A4 hX hnt hnA htA htp htB htA'
  go_still_tail 6, (by kernel_rfl)
  change wpList _ _ _ _ _ w5.drew
  go_wp2_with (refine wpList_set61 rfl _ _ _ rfl p.mb p.T p.L i j w'.heap.size rfl rfl rfl TB.out hL hi2 hj2 ?_; intro w6 ht6 hg6 hs6)
  go_ret
  refine ⟨w'.heap.size, by have := W2.out.size; omega, rfl, ?_⟩
  obtain ⟨q1, q2⟩ := own_end H.out HK.out hi hj (g := S.pix t) (H.out.small t HTL.out.1) hroom (by
    rintro ⟨t2, e, e2⟩
    rw [HT.out] at e
    cases e
    rw [← HC1.out] at e2
    simp [e2] at hc1) (Nat.le_refl _) (w5 := w5) A5.out T5.out.1 (fun t2 e => by
    rw [HT.out] at e
    cases e
    rw [← HC1.out]
    exact T5.out.2) E5.out ht6 ⟨hg6.os, hg6.tape, hg6.output, hg6.size, hg6.block⟩
  exact ⟨q1, (W2.out.mono (S1 := Foot S) (fun b _ h => h.elim)).trans q2 (fun b _ h => h)⟩
end Go.Proofs.Ytgonpaofickffaa
