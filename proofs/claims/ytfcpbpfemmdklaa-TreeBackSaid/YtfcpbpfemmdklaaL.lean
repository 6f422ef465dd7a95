/- A layer inserted into a row without room (65). (printed by genTL.py) -/
import Derived.Test.YtfcpbpfemmdklaaK
import Derived.Lib.AppendZerosOnto
namespace Go.Proofs.Ytfcpbpfemmdklaa
open Go.RowKit Go.Lib
set_option linter.unusedSimpArgs false
set_option linter.unusedVariables false

/-- What the new row holds behind the two copies. -/
theorem row_ins2 {n i c : Nat} {ls : List Loc} {x : Loc} {cur c1 c2 : Array Value} (hn : n = ls.length) (hi : i ≤ n) (hc : n + 1 ≤ c) (hs : cur.size = c * 19) (ht : cur.toList.take (i * 19) = flat (ls.take i)) (s1 : c1.size = cur.size) (s2 : c2.size = c1.size)
    (h1 : ∀ j, c1[j]? = if i * 19 ≤ j ∧ j < i * 19 + x.cells.length then x.cells[j - i * 19]? else cur[j]?)
    (h2 : ∀ j, c2[j]? = if (i + 1) * 19 ≤ j ∧ j < (i + 1) * 19 + (flat (ls.drop i)).length then (flat (ls.drop i))[j - (i + 1) * 19]? else c1[j]?) : c2.toList.take ((n + 1) * 19) = flat (ls.take i ++ x :: ls.drop i) := by
  have e1 : flat (ls.take i ++ x :: ls.drop i) = flat (ls.take i) ++ (x.cells ++ flat (ls.drop i)) := by rw [flat_append, flat]
  have l1 : (flat (ls.take i)).length = i * 19 := by rw [flat_length, List.length_take]; omega
  have l2 : (flat (ls.drop i)).length = (n - i) * 19 := by rw [flat_length, List.length_drop, hn]
  have l3 := x.cells_length
  rw [e1]
  refine List.ext_getElem? fun j => ?_
  by_cases hj : j < (n + 1) * 19
  · rw [List.getElem?_take_of_lt hj, Array.getElem?_toList, h2 j]
    by_cases a2 : (i + 1) * 19 ≤ j ∧ j < (i + 1) * 19 + (flat (ls.drop i)).length
    · rw [if_pos a2, List.getElem?_append_right (by omega), l1, List.getElem?_append_right (by omega), l3, show j - i * 19 - 19 = j - (i + 1) * 19 by omega]
    · rw [if_neg a2, h1 j]
      by_cases a1 : i * 19 ≤ j ∧ j < i * 19 + x.cells.length
      · rw [if_pos a1, List.getElem?_append_right (by omega), l1, List.getElem?_append_left (by omega)]
      · rw [if_neg a1, List.getElem?_append_left (by omega)]
        have h3 : (cur.toList.take (i * 19))[j]? = (flat (ls.take i))[j]? := by rw [ht]
        rw [List.getElem?_take_of_lt (by omega), Array.getElem?_toList] at h3
        exact h3
  · rw [List.getElem?_eq_none (by rw [List.length_take]; omega), List.getElem?_eq_none (by rw [List.length_append, List.length_append]; omega)]
set_option maxRecDepth 100000 in
set_option maxHeartbeats 1600000 in
/-- Ahead of the end, where there is no room. -/
theorem insert_grow (B g n c i : Nat) (ls : List Loc) (x : Loc) (vb vc : Nat) (w : World) (O : OwnR B w 48 19 ⟨some ⟨g, 0, none⟩, n, c⟩ (flat ls)) (hi : i < n) (hroom : c < n + 1) (hn9 : n < 536870912) (hv : w.heap[vb]? = some (.cells x.cells.toArray 48 (0, 0))) (hB : B ≤ w.heap.size) :
    Calls Try.prog 65 #[.slice (some ⟨g, 0, none⟩) n c, .int .i64 (i : Int), .slice (some ⟨vb, 0, none⟩) 1 vc] w fun e w' =>
      ∃ h' : Hd, e = .returned (.slice h'.a h'.n h'.c) ∧ h'.n = n + 1 ∧ OwnR B w' 48 19 h' (flat (ls.take i ++ x :: ls.drop i)) ∧ Keeps none' w w' ∧ NewOr w ⟨some ⟨g, 0, none⟩, n, c⟩ h' := by
  have hn : n = ls.length := by
    have h1 := O.read.1.1.len
    rw [flat_length] at h1
    have h2 : ls.length * 19 = n * 19 := h1
    omega
  obtain ⟨g', c', cur0, e0, hB0, hg, hc, hs0, ht⟩ := O.some (by show 0 < n; omega)
  simp only [Hd.mk.injEq, Option.some.injEq, Addr.mk.injEq] at e0
  obtain ⟨⟨rfl, -⟩, -, rfl⟩ := e0
  have ht' : cur0.toList.take (n * 19) = flat ls := ht
  have hcn : n = c := by have h1 : n ≤ c := hc; omega
  obtain ⟨i0, hi0, hz0, hz1, hz2⟩ := info_parts info48
  have l1 : (flat (ls.take i)).length = i * 19 := by rw [flat_length, List.length_take]; omega
  have l2 : (flat (ls.drop i)).length = (n - i) * 19 := by rw [flat_length, List.length_drop, hn]
  have hgw : g < w.heap.size := lt_of_block hg
  have hvw : vb < w.heap.size := lt_of_block hv
  have celw : ∀ w1 : World, w1.heap[g]? = w.heap[g]? → ∀ j u, (flat ls)[j]? = some u → w1.cell? ⟨g, j, none⟩ = some u := by
    intro w1 e j u hj
    have hjl : j < n * 19 := by have := (List.getElem?_eq_some_iff.1 hj).1; rw [flat_length] at this; omega
    rw [cell_of_row _ _ _ _ _ _ (e.trans hg)]
    rw [← ht', List.getElem?_take_of_lt hjl] at hj
    rw [← Array.getElem?_toList]
    exact hj
  have hold : (Builtin.firstCells i0.size i (.slice (some ⟨g, 0, none⟩) i c)).run Try.prog w.drew = .ok (flat (ls.take i)).toArray w.drew := by
    rw [hz1]
    exact run_firstCells_some w.drew 19 i ⟨g, 0, none⟩ i c (flat (ls.take i)) l1 (fun j v hj => by
      rw [add_spot, Nat.zero_add]
      refine celw w.drew rfl j v ?_
      have hjl := (List.getElem?_eq_some_iff.1 hj).1
      rw [flat_take_drop ls i, List.getElem?_append_left hjl]
      exact hj)
  have hkk : (n : Int) + 1 - (i : Int) = ((n + 1 - i : Nat) : Int) := by omega
  have hik : i + (n + 1 - i) = n + 1 := by omega
  obtain ⟨Z, hZ⟩ : ∃ Z, i0.zero = some Z ∧ Z.cells.size = 19 := ⟨_, hz0, by kernel_rfl⟩
  have hrz : ∀ ty, (Builtin.append_ #[23, 3] ty #[.slice (some ⟨g, 0, none⟩) i c, .int .i64 ((n : Int) + 1 - (i : Int))]).run Try.prog w =
      .ok (.slice (some ⟨w.heap.size, 0, none⟩) (n + 1) (grownCap w (n + 1) c 48)) (w.drew.alloc (.cells ((flat (ls.take i)).toArray ++ Builtin.zeroCells Z.cells (n + 1 - i) ++ Builtin.zeroCells Z.cells (grownCap w (n + 1) c 48 - (n + 1))) 48)) := fun ty => by
    have h := Lib.run_append_grow_zeros w 23 3 ty 48 i0 Z .i64 .i64 Try.underlying23 Try.underlying3 hi0 hZ.1 (some ⟨g, 0, none⟩) i c (flat (ls.take i)) hold (n + 1 - i) (by omega) (by omega) (by omega) (by omega) (by rw [hz2]; omega) (by rw [hz2, hik]; exact growslice_fits hroom (by omega))
    rw [hik] at h
    rw [hkk]
    exact h
  obtain ⟨G, hG⟩ : ∃ G, G = grownCap w (n + 1) c 48 := ⟨_, rfl⟩
  obtain ⟨ROW, hROW⟩ : ∃ ROW : Array Value, ROW = (flat (ls.take i)).toArray ++ Builtin.zeroCells Z.cells (n + 1 - i) ++ Builtin.zeroCells Z.cells (G - (n + 1)) := ⟨_, rfl⟩
  rw [← hG] at hrz
  rw [← hROW] at hrz
  have hGn : n + 1 ≤ G := by rw [hG]; exact grownCap_ge w _ _ _
  have hGm : G ≤ maxLen := by rw [hG]; exact grownCap_le_maxLen w (n + 1) c 48 (by unfold maxLen; omega)
  have hG63 : G ≤ 9223372036854775807 := by unfold maxLen at hGm; omega
  have hRs : ROW.size = G * 19 := by
    rw [hROW, Array.size_append, Array.size_append, size_zeroCells, size_zeroCells, hZ.2, List.size_toArray, l1]
    omega
  have hRt : ROW.toList.take (i * 19) = flat (ls.take i) := by
    rw [hROW, Array.toList_append, Array.toList_append, List.append_assoc, ← l1]
    exact List.take_left' rfl
  obtain ⟨A0, hA0⟩ : ∃ A0, A0 = (w.alloc (.cells ROW 48)).drew := ⟨_, rfl⟩
  have hrz' : ∀ ty, (Builtin.append_ #[23, 3] ty #[.slice (some ⟨g, 0, none⟩) i c, .int .i64 ((n : Int) + 1 - (i : Int))]).run Try.prog w = .ok (.slice (some ⟨w.heap.size, 0, none⟩) (n + 1) G) A0 := fun ty => by rw [hA0]; exact hrz ty
  clear hrz
  have k0 : Keeps none' w A0 := by rw [hA0]; exact ((Keeps.refl none' w).alloc _).drew
  have b0 : A0.heap[w.heap.size]? = some (.cells ROW 48 (0, 0)) := by rw [hA0]; exact Array.getElem?_push_size
  have hx0 : (x.cells).length = 19 := x.cells_length
  obtain ⟨cur1, c1, c2, c3⟩ := setCells_block w.heap.size 48 (0, 0) x.cells (i * 19) A0 ROW b0 (by rw [hRs]; omega)
  have hcp1 : ∀ ty, (Builtin.copy_ #[23, 23] ty #[.slice (some ⟨w.heap.size, i * 19, none⟩) (n + 1 - i) (G - i), .slice (some ⟨vb, 0, none⟩) 1 vc]).run Try.prog A0 = .ok (goInt (Nat.min 1 (n + 1 - i))) (A0.setCells w.heap.size (i * 19) x.cells) := fun ty =>
    run_copy_layers A0 ty w.heap.size (i * 19) (n + 1 - i) (G - i) ⟨vb, 0, none⟩ 1 vc x.cells (by rw [hx0]; simp only [Nat.min_def]; split <;> omega)
      (fun j v hj => by
        rw [add_spot, Nat.zero_add, cell_of_row _ _ _ _ _ _ ((k0.later vb hvw).trans hv)]
        simpa using hj)
      (fun j hj => by rw [cell_of_row _ _ _ _ _ _ b0, Array.getElem?_eq_getElem (by omega)]; rfl) (fun j hj => by simp [World.frozen?, b0]) x.cells_one
  obtain ⟨A1, hA1⟩ : ∃ A1, A1 = A0.setCells w.heap.size (i * 19) x.cells := ⟨_, rfl⟩
  rw [← hA1] at c1 hcp1
  have k1 : Keeps none' w A1 := by
    rw [hA1]
    exact k0.trans (keeps_setCells w.heap.size _ _ _) (fun q hq e => by have e' : q = w.heap.size := e; omega)
  obtain ⟨cur2, d1, d2, d3⟩ := setCells_block w.heap.size 48 (0, 0) (flat (ls.drop i)) ((i + 1) * 19) A1.drew cur1 c1 (by rw [c2, hRs, l2]; omega)
  have hcp2 : ∀ ty, (Builtin.copy_ #[23, 23] ty #[.slice (some ⟨w.heap.size, (i + 1) * 19, none⟩) (n - i) (G - (i + 1)), .slice (some ⟨g, i * 19, none⟩) (n - i) (c - i)]).run Try.prog A1.drew = .ok (goInt (Nat.min (n - i) (n - i))) (A1.drew.setCells w.heap.size ((i + 1) * 19) (flat (ls.drop i))) := fun ty =>
    run_copy_layers A1.drew ty w.heap.size ((i + 1) * 19) (n - i) (G - (i + 1)) ⟨g, i * 19, none⟩ (n - i) (c - i) (flat (ls.drop i)) (by rw [l2, show (n - i).min (n - i) = n - i from Nat.min_self _])
      (fun j v hj => by
        rw [add_spot]
        refine celw A1.drew (k1.drew.later g hgw) _ v ?_
        rw [flat_take_drop ls i, List.getElem?_append_right (by rw [l1]; omega), l1, show i * 19 + j - i * 19 = j by omega]
        exact hj)
      (fun j hj => by rw [l2] at hj; rw [cell_of_row _ _ _ _ _ _ (show A1.drew.heap[w.heap.size]? = _ from c1), Array.getElem?_eq_getElem (by omega)]; rfl) (fun j hj => by simp [World.frozen?, show A1.drew.heap[w.heap.size]? = _ from c1]) (flat_one _)
  obtain ⟨A2, hA2⟩ : ∃ A2, A2 = A1.drew.setCells w.heap.size ((i + 1) * 19) (flat (ls.drop i)) := ⟨_, rfl⟩
  rw [← hA2] at d1 hcp2
  have KX : Keeps none' w A2 := by
    rw [hA2]
    exact k1.drew.trans (keeps_setCells w.heap.size _ _ _) (fun q hq e => by have e' : q = w.heap.size := e; omega)
  have X : OwnR B A2 48 19 ⟨some ⟨w.heap.size, 0, none⟩, n + 1, G⟩ (flat (ls.take i ++ x :: ls.drop i)) :=
    ⟨⟨by rw [flat_length, List.length_append, List.length_cons, List.length_take, List.length_drop]; show _ = (n + 1) * 19; omega, .inr ⟨w.heap.size, G, cur2, rfl, hB, d1, hGn, hGm, by rw [d2, c2]; exact hRs, row_ins2 hn (by omega) hGn hRs hRt c2 d2 c3 d3⟩⟩, flat_one _, by show n + 1 ≤ _; omega⟩
  have HX := Lib.hid X
  have HK := Lib.hid KX
  have H0 := Lib.hid hrz'
  have H1 := Lib.hid hcp1
  have H2 := Lib.hid hcp2
  have mixed : Try.prog.follows .mixedOrders = true := by kernel_rfl
  have hwi : IntKind.i64.wrap ((i : Int) + 1) = (i : Int) + 1 := wrap_i64 _ (by omega) (by omega)
  have hz2 : ¬ ((i : Int) = (n : Int)) := by omega
  have hz3 : (c : Int) < (n : Int) + 1 := by omega
  have hb1 : (0 : Int) ≤ (i : Int) + 1 := by omega
  have hin : i ≤ n := by omega
  have htn : ((i : Int) + 1).toNat = i + 1 := by omega
  have hGi : ¬ (G = i) := by omega
  have hGim : ¬ (G = i + 1) := by omega
  have hci : ¬ (c = i) := by omega
  have hb3 : (i : Int) ≤ (n : Int) := by omega
  have hb4 : (i : Int) ≤ (c : Int) := by omega
  clear X KX hrz' hcp1 hcp2 celw hold hkk hik hG hROW hRs hRt hA0 hA1 hA2 k0 k1 b0 c1 c2 c3 d1 d2 d3 hv O hB0 hg hs0 ht ht' hZ hz0 hz1 hi0 l1 l2 hn hcn
  go_enter Try.func65, Try.ntmps65
  go_wp2_with (first
    | refine Lib.wpList_append_run _ rfl (.tmp 34) (.tmp 39) 23 3 rfl (.slice (some ⟨g, 0, none⟩) i c) (.int .i64 ((n : Int) + 1 - (i : Int))) rfl rfl _ _ (H0.out _) ?_
    | refine wpList_copy_run _ rfl _ _ 23 23 rfl (.slice (some ⟨w.heap.size, i * 19, none⟩) (n + 1 - i) (G - i)) (.slice (some ⟨vb, 0, none⟩) 1 vc) rfl rfl (H1.out _) ?_)
  go_region_law (refine step_copy_run rfl (.tmp 50) (.tmp 53) 23 23 rfl (.slice (some ⟨w.heap.size, (i + 1) * 19, none⟩) (n - i) (G - (i + 1))) (.slice (some ⟨g, i * 19, none⟩) (n - i) (c - i)) (by simp [Act.eval, Act.put]) (by simp [Act.eval, Act.put]) (H2.out _) ?_)
  go_wp2_with fail
  go_ret
  exact ⟨⟨some ⟨w.heap.size, 0, none⟩, n + 1, G⟩, rfl, rfl, HX.out, HK.out, newOr_of (.inr rfl)⟩
set_option maxRecDepth 100000 in
/-- Wherever it goes. -/
theorem insert_any (B : Nat) (h : Hd) (i : Nat) (ls : List Loc) (x : Loc) (vb vc : Nat) (w : World) (O : OwnR B w 48 19 h (flat ls)) (hB : B ≤ w.heap.size) (hn : h.n < 536870912) (hi : i ≤ h.n) (hv : w.heap[vb]? = some (.cells x.cells.toArray 48 (0, 0))) (hvb : (Value.slice h.a h.n h.c).ownBlock ≠ some vb) :
    Calls Try.prog 65 #[.slice h.a h.n h.c, .int .i64 (i : Int), .slice (some ⟨vb, 0, none⟩) 1 vc] w fun e w' =>
      ∃ h' : Hd, e = .returned (.slice h'.a h'.n h'.c) ∧ h'.n = h.n + 1 ∧ OwnR B w' 48 19 h' (flat (ls.take i ++ x :: ls.drop i)) ∧ Keeps (fun q => (Value.slice h.a h.n h.c).ownBlock = some q) w w' ∧ NewOr w h h' := by
  have hl : h.n = ls.length := by
    have h1 := O.read.1.1.len
    rw [flat_length] at h1
    omega
  by_cases he : i = h.n
  · subst he
    refine (insert_end B h ls x vb vc w O hB hn hv).mono ?_
    rintro e w' ⟨h', e1, e2, e3, g, no⟩
    refine ⟨h', e1, e2, ?_, (Keeps.refl _ w).grown g (fun q hq e => e), no⟩
    rw [hl, List.take_length, List.drop_length]
    exact e3
  · have hi' : i < h.n := by omega
    obtain ⟨g, c, cur, e0, hB0, hg, hc, hs, ht⟩ := O.some (by omega)
    obtain ⟨a, n, c1⟩ := h
    simp only [Hd.mk.injEq] at e0
    obtain ⟨rfl, -, rfl⟩ := e0
    by_cases hroom : n + 1 ≤ c1
    · refine (insert_shift B g n c1 i ls x vb vc w O hi' hroom hn hv (fun e => hvb (by subst e; rfl))).mono ?_
      rintro e w' ⟨e1, e2, k⟩
      exact ⟨⟨_, n + 1, c1⟩, e1, rfl, e2, ⟨k.os, k.tape, k.output, k.size, fun q hq hnq => k.block q hq (fun e => hnq (by have e' : q = g := e; subst e'; rfl))⟩, newOr_of (.inl rfl)⟩
    · refine (insert_grow B g n c1 i ls x vb vc w O hi' (by omega) hn hv hB).mono ?_
      rintro e w' ⟨h', e1, e2, e3, k, no⟩
      exact ⟨h', e1, e2, e3, ⟨k.os, k.tape, k.output, k.size, fun q hq hnq => k.later q hq⟩, no⟩
end Go.Proofs.Ytfcpbpfemmdklaa
