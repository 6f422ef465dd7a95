/- A layer inserted into a row (65). (printed by genTK.py) -/
import Derived.Test.YtfcpbpfemmdklaaJ
import Derived.Lib.AppendZeros
import Derived.Lib.Overlaps
import Derived.Laws.IdiomCopy
namespace Go.Proofs.Ytfcpbpfemmdklaa
open Go.RowKit
set_option linter.unusedSimpArgs false
set_option linter.unusedVariables false

theorem run_copy_layers (w : World) (ty : TypeId) (b o dLen dCap : Nat) (a : Addr) (sLen sCap : Nat) (cs : List Value) (hn : cs.length = Nat.min sLen dLen * 19)
    (hsrc : ∀ j v, cs[j]? = some v → w.cell? (a.add j) = some v) (hc : ∀ j, j < cs.length → (w.cell? ⟨b, o + j, none⟩).isSome = true) (hf : ∀ j, j < cs.length → w.frozen? ⟨b, o + j, none⟩ = false) (h1 : ∀ v ∈ cs, v.oneCell' = true) :
    (Builtin.copy_ #[23, 23] ty #[.slice (some ⟨b, o, none⟩) dLen dCap, .slice (some a) sLen sCap]).run Try.prog w = .ok (goInt (Nat.min sLen dLen)) (w.setCells b o cs) := by
  have hl := run_loadCells_list (P := Try.prog) w a cs hsrc
  have hst := run_storeCells_cells (P := Try.prog) b o cs 0 w (by simpa using hc) (by simpa using hf) h1
  obtain ⟨i0, hi0, hz0, hz1, hz2⟩ := info_parts info48
  simp [Builtin.copy_, run_underlying Try.underlying23, Builtin.lenOf, Builtin.firstCells, sizeOf, typeInfo, hi0, hz1, ← hn, hl, hst]
theorem wpList_copy_run (w : World) {ops : Array Oper} {rest : List Oper} {o : Oper} {a : Act} {Q : Exit → Act → World → Prop} (hgd : o.guard = none) (d s : Operand) (t t' : TypeId)
    (ho : o.op = .call { callee := .builtin .copy, args := #[d, s], argTypes := #[t, t'] }) (v u : Value) (hd : a.eval d = v) (hs : a.eval s = u) {v' : Value} {w' : World}
    (hr : (Builtin.copy_ #[t, t'] o.type #[v, u]).run Try.prog w = .ok v' w') (h : wpList Try.prog ops Q rest (a.put o.dst v') w') : wpList Try.prog ops Q (o :: rest) a w :=
  wpList_plain hgd fun K hK => by
    unfold Oper.wp execOp
    simp only [ho, resolve, invoke, builtin, Sem.run_bind, Sem.run_pure, Result.andThen_ok, List.map_toArray, List.map_cons, List.map_nil, hd, hs, hr]
    exact hK _ _ h
theorem step_copy_run {ops : Array Oper} {o : Oper} {a : Act} {w : World} {K : Act → World → Prop} {Q : Exit → Act → World → Prop} {E : Prop}
    (hg : o.guard = none) (d x : Operand) (dT sT : TypeId) (hop : o.op = Op.call { callee := Callee.builtin Builtin.copy, args := #[d, x], argTypes := #[dT, sT] })
    (v u : Value) (hd : a.eval d = v) (hx : a.eval x = u) {v' : Value} {w' : World} (hr : (Builtin.copy_ #[dT, sT] o.type #[v, u]).run Try.prog w = .ok v' w') (hK : K (a.put o.dst v') w') :
    if Region.wanted o (yielded ops a.tmps) = true then Oper.wp Try.prog o a w K Q else E := by
  have hw : Region.wanted o (yielded ops a.tmps) = true := by simp [Region.wanted, hg]
  rw [if_pos hw]
  unfold Oper.wp execOp
  simp only [hop, resolve, invoke, builtin, Sem.run_bind, Sem.run_pure, Result.andThen_ok, List.map_toArray, List.map_cons, List.map_nil, hd, hx, hr]
  exact hK
set_option maxRecDepth 100000 in
set_option maxHeartbeats 1600000 in
/-- The row's block is the old one or a new one. -/
def NewOr (w : World) (h h' : Hd) : Prop := ∀ b, (Value.slice h'.a h'.n h'.c).ownBlock = some b → (Value.slice h.a h.n h.c).ownBlock = some b ∨ w.heap.size ≤ b
theorem newOr_of {w : World} {h h' : Hd} (e : (Value.slice h'.a h'.n h'.c).ownBlock = (Value.slice h.a h.n h.c).ownBlock ∨ (Value.slice h'.a h'.n h'.c).ownBlock = some w.heap.size) : NewOr w h h' := by
  intro b hb
  rcases e with e | e
  · exact .inl (e ▸ hb)
  · rw [e] at hb
    exact .inr (Nat.le_of_eq (Option.some.inj hb))
/-- At the end: there may be room or none. -/
theorem insert_end (B : Nat) (h : Hd) (ls : List Loc) (x : Loc) (vb vc : Nat) (w : World) (O : OwnR B w 48 19 h (flat ls)) (hB : B ≤ w.heap.size) (hn : h.n < 536870912) (hv : w.heap[vb]? = some (.cells x.cells.toArray 48 (0, 0))) :
    Calls Try.prog 65 #[.slice h.a h.n h.c, .int .i64 (h.n : Int), .slice (some ⟨vb, 0, none⟩) 1 vc] w fun e w' =>
      ∃ h', e = .returned (.slice h'.a h'.n h'.c) ∧ h'.n = h.n + 1 ∧ OwnR B w' 48 19 h' (flat (ls ++ [x])) ∧ w.grownBy w' (Value.slice h.a h.n h.c).ownBlock ∧ NewOr w h h' := by
  have hcx : ∀ j u, x.cells[j]? = some u → w.cell? ⟨vb, j, none⟩ = some u := by
    intro j u hj
    rw [cell_of_row _ _ _ _ _ _ hv]
    simpa using hj
  have HX := Lib.hid hcx
  obtain ⟨i0, hi, hz0, hz1, hz2⟩ := info_parts info48
  have fin : ∀ (v' : Value) (w1 : World), w1.ownsRow B 48 19 v' (h.n + 1) (flat ls ++ x.cells) → ∃ h' : Hd, v' = .slice h'.a h'.n h'.c ∧ h'.n = h.n + 1 ∧ OwnR B w1 48 19 h' (flat (ls ++ [x])) := by
    intro v' w1 ho
    have e1 : flat ls ++ x.cells = flat (ls ++ [x]) := by rw [flat_append, flat_one1]
    rw [e1] at ho
    obtain ⟨hd, e2, e3, -, -⟩ := own_cells ho (flat_one _)
    subst e2
    exact ⟨hd, rfl, e3, by rw [← e3] at ho; exact ho, flat_one _, by omega⟩
  have FIN := Lib.hid fin
  clear hv hcx fin
  obtain ⟨a, n, c⟩ := h
  have OO : w.ownsRow B 48 19 (.slice a n c) n (flat ls) := O.1
  cases a with
  | none =>
    have hz : n = 0 ∧ c = 0 := O.read.1.1.abs rfl
    obtain ⟨rfl, rfl⟩ := hz
    go_enter Try.func65, Try.ntmps65
    go_wp2_with (at_builtin; refine wpList_append_own_at (P := Try.prog) _ rfl _ _ 23 rfl B 48 i0 _ 19 216 Try.underlying23 hi hz0 hz1 hz2 (by decide) (by decide) _ _ _ rfl OO ⟨vb, 0, none⟩ 1 vc x.cells rfl (by rw [Loc.cells_length]) (fun j u hj => by rw [add_spot, Nat.zero_add]; exact HX.out j u hj) x.cells_one (by unfold maxLen; omega) (by omega) hB ?_)
    intro v' w1 hown hgrow hnil hat
    obtain ⟨h', rfl, e2, e3⟩ := FIN.out v' w1 hown
    go_wp2_with fail
    go_ret
    exact ⟨h', rfl, e2, e3, hgrow, newOr_of (h := ⟨_, _, _⟩) hat⟩
  | some y =>
    obtain ⟨g, c', cur, e0, hB2, hg, hc, hs, ht⟩ : ∃ g c' cur, (⟨some y, n, c⟩ : Hd) = ⟨some ⟨g, 0, none⟩, n, c'⟩ ∧ B ≤ g ∧ w.heap[g]? = some (.cells cur 48 (0, 0)) ∧ n ≤ c' ∧ cur.size = c' * 19 ∧ True := by
      rcases O.1.2 with ⟨e, -⟩ | ⟨g, cap, cur, e, h1, h2, h3, h4, h5, h6⟩
      · cases e
      · cases e
        exact ⟨g, _, cur, rfl, h1, h2, h3, h5, trivial⟩
    simp only [Hd.mk.injEq, Option.some.injEq] at e0
    obtain ⟨rfl, -, rfl⟩ := e0
    have hnc : n ≤ c := hc
    have hn2 : n < 536870912 := hn
    have z1 : (0 : Int) ≤ (n : Int) := by omega
    have z2 : (n : Int) ≤ (c : Int) := by omega
    clear hB2 hg hc hs ht hn
    rcases Nat.lt_or_ge n c with hlt | hge
    · have hne : ¬ c = n := by omega
      go_enter Try.func65, Try.ntmps65
      go_wp2_with (at_builtin; refine wpList_append_own_at (P := Try.prog) _ rfl _ _ 23 rfl B 48 i0 _ 19 216 Try.underlying23 hi hz0 hz1 hz2 (by decide) (by decide) _ _ _ rfl OO ⟨vb, 0, none⟩ 1 vc x.cells rfl (by rw [Loc.cells_length]) (fun j u hj => by rw [add_spot, Nat.zero_add]; exact HX.out j u hj) x.cells_one (by unfold maxLen; omega) (by omega) hB ?_)
      intro v' w1 hown hgrow hnil hat
      obtain ⟨h', rfl, e2, e3⟩ := FIN.out v' w1 hown
      go_wp2_with fail
      go_ret
      exact ⟨h', rfl, e2, e3, hgrow, newOr_of (h := ⟨_, _, _⟩) hat⟩
    · obtain rfl : c = n := by omega
      clear hge
      go_enter Try.func65, Try.ntmps65
      go_wp2_with (at_builtin; refine wpList_append_own_at (P := Try.prog) _ rfl _ _ 23 rfl B 48 i0 _ 19 216 Try.underlying23 hi hz0 hz1 hz2 (by decide) (by decide) _ _ _ rfl OO ⟨vb, 0, none⟩ 1 vc x.cells rfl (by rw [Loc.cells_length]) (fun j u hj => by rw [add_spot, Nat.zero_add]; exact HX.out j u hj) x.cells_one (by unfold maxLen; omega) (by omega) hB ?_)
      intro v' w1 hown hgrow hnil hat
      obtain ⟨h', rfl, e2, e3⟩ := FIN.out v' w1 hown
      go_wp2_with fail
      go_ret
      exact ⟨h', rfl, e2, e3, hgrow, newOr_of (h := ⟨_, _, _⟩) hat⟩
theorem shape_of {w : World} {b : Nat} {c : Array Value} {t : TypeId} {f : Nat × Nat} (h : w.heap[b]? = some (.cells c t f)) : w.shape? b = some (t, c.size) := by simp [World.shape?, h]
/-- What a row holds behind the two copies. -/
theorem row_ins {n i c : Nat} {ls : List Loc} {x : Loc} {cur c1 c2 : Array Value} (hn : n = ls.length) (hi : i ≤ n) (hc : n + 1 ≤ c) (hs : cur.size = c * 19) (ht : cur.toList.take (n * 19) = flat ls) (s1 : c1.size = cur.size) (s2 : c2.size = c1.size)
    (h1 : ∀ j, c1[j]? = if (i + 1) * 19 ≤ j ∧ j < (i + 1) * 19 + (flat (ls.drop i)).length then (flat (ls.drop i))[j - (i + 1) * 19]? else cur[j]?)
    (h2 : ∀ j, c2[j]? = if i * 19 ≤ j ∧ j < i * 19 + x.cells.length then x.cells[j - i * 19]? else c1[j]?) : c2.toList.take ((n + 1) * 19) = flat (ls.take i ++ x :: ls.drop i) := by
  have e1 : flat (ls.take i ++ x :: ls.drop i) = flat (ls.take i) ++ (x.cells ++ flat (ls.drop i)) := by rw [flat_append, flat]
  have l1 : (flat (ls.take i)).length = i * 19 := by rw [flat_length, List.length_take]; omega
  have l2 : (flat (ls.drop i)).length = (n - i) * 19 := by rw [flat_length, List.length_drop, hn]
  have l3 := x.cells_length
  rw [e1]
  refine List.ext_getElem? fun j => ?_
  by_cases hj : j < (n + 1) * 19
  · rw [List.getElem?_take_of_lt hj, Array.getElem?_toList, h2 j]
    by_cases a1 : i * 19 ≤ j ∧ j < i * 19 + x.cells.length
    · rw [if_pos a1, List.getElem?_append_right (by omega), l1, List.getElem?_append_left (by omega)]
    · rw [if_neg a1, h1 j]
      by_cases a2 : (i + 1) * 19 ≤ j ∧ j < (i + 1) * 19 + (flat (ls.drop i)).length
      · rw [if_pos a2, List.getElem?_append_right (by omega), l1, List.getElem?_append_right (by omega), l3, show j - i * 19 - 19 = j - (i + 1) * 19 by omega]
      · rw [if_neg a2, List.getElem?_append_left (by omega)]
        have h3 : (cur.toList.take (n * 19))[j]? = (flat ls)[j]? := by rw [ht]
        rw [List.getElem?_take_of_lt (by omega), Array.getElem?_toList] at h3
        rw [h3, flat_take_drop ls i, List.getElem?_append_left (by omega)]
  · rw [List.getElem?_eq_none (by rw [List.length_take]; omega), List.getElem?_eq_none (by rw [List.length_append, List.length_append]; omega)]
set_option maxRecDepth 100000 in
set_option maxHeartbeats 1600000 in
/-- Ahead of the end, where there is room. -/
theorem insert_shift (B g n c i : Nat) (ls : List Loc) (x : Loc) (vb vc : Nat) (w : World) (O : OwnR B w 48 19 ⟨some ⟨g, 0, none⟩, n, c⟩ (flat ls)) (hi : i < n) (hroom : n + 1 ≤ c) (hn9 : n < 536870912) (hv : w.heap[vb]? = some (.cells x.cells.toArray 48 (0, 0))) (hvb : vb ≠ g) :
    Calls Try.prog 65 #[.slice (some ⟨g, 0, none⟩) n c, .int .i64 (i : Int), .slice (some ⟨vb, 0, none⟩) 1 vc] w fun e w' =>
      e = .returned (.slice (some ⟨g, 0, none⟩) (n + 1) c) ∧ OwnR B w' 48 19 ⟨some ⟨g, 0, none⟩, n + 1, c⟩ (flat (ls.take i ++ x :: ls.drop i)) ∧ Keeps (fun q => q = g) w w' := by
  have hn : n = ls.length := by
    have h1 := O.read.1.1.len
    rw [flat_length] at h1
    have h2 : ls.length * 19 = n * 19 := h1
    omega
  obtain ⟨g', c', cur, e0, hB, hg, hc, hs, ht⟩ := O.some (by show 0 < n; omega)
  simp only [Hd.mk.injEq, Option.some.injEq, Addr.mk.injEq] at e0
  obtain ⟨⟨rfl, -⟩, -, rfl⟩ := e0
  have ht' : cur.toList.take (n * 19) = flat ls := ht
  have hcm : c ≤ maxLen := by
    rcases O.1.2 with ⟨e, -⟩ | ⟨g2, cap2, cur2, e, h1, h2, h3, h4, h5⟩
    · cases e
    · cases e; exact h4
  have hc63 : c ≤ 9223372036854775807 := by unfold maxLen at hcm; omega
  have l2 : (flat (ls.drop i)).length = (n - i) * 19 := by rw [flat_length, List.length_drop, hn]
  have celw : ∀ w1 : World, w1.heap[g]? = w.heap[g]? → ∀ j u, (flat ls)[j]? = some u → w1.cell? ⟨g, j, none⟩ = some u := by
    intro w1 e j u hj
    have hjl : j < n * 19 := by have := (List.getElem?_eq_some_iff.1 hj).1; rw [flat_length] at this; omega
    rw [cell_of_row _ _ _ _ _ _ (e.trans hg)]
    rw [← ht', List.getElem?_take_of_lt hjl] at hj
    rw [← Array.getElem?_toList]
    exact hj
  have there : ∀ (w1 : World) (cu : Array Value), w1.heap[g]? = some (.cells cu 48 (0, 0)) → cu.size = c * 19 → ∀ j, j < c * 19 → (w1.cell? ⟨g, j, none⟩).isSome = true ∧ w1.frozen? ⟨g, j, none⟩ = false := by
    intro w1 cu e es j hj
    rw [cell_of_row _ _ _ _ _ _ e]
    exact ⟨by rw [Array.getElem?_eq_getElem (by omega)]; rfl, by simp [World.frozen?, e]⟩
  have hov : ∀ lb cb, (callFunc 78 #[.slice (some ⟨vb, 0, none⟩) 1 vc, .slice (some ⟨g, (i + 1) * 19, none⟩) lb cb]).run Try.prog w = .ok (.value (.bool false)) w := fun lb cb => by
    rw [run_callFunc_extern Try.func78 (by kernel_rfl) (by kernel_rfl) (by kernel_rfl) (e := Extern.SlicesOverlaps.overlaps #[23, 23] #[4]) (by kernel_rfl),
      Lib.run_overlaps_apart w 23 4 48 Try.underlying23 19 Try.sizeOf48 ⟨vb, 0, none⟩ ⟨g, (i + 1) * 19, none⟩ 1 vc lb cb hvb 48 48 x.cells.toArray.size cur.size (shape_of hv) (shape_of hg) (by rw [hs]; omega) (by simp [World.frozen?, hv]) (by simp [World.frozen?, hv])]
    rfl
  have hcp1 : ∀ ty dc sc, (Builtin.copy_ #[23, 23] ty #[.slice (some ⟨g, (i + 1) * 19, none⟩) (n - i) dc, .slice (some ⟨g, i * 19, none⟩) (n + 1 - i) sc]).run Try.prog w.drew = .ok (goInt (Nat.min (n + 1 - i) (n - i))) (w.drew.setCells g ((i + 1) * 19) (flat (ls.drop i))) := fun ty dc sc =>
    run_copy_layers w.drew ty g ((i + 1) * 19) (n - i) dc ⟨g, i * 19, none⟩ (n + 1 - i) sc (flat (ls.drop i)) (by rw [l2]; simp only [Nat.min_def]; split <;> omega)
      (fun j v hj => by
        rw [add_spot]
        refine celw w.drew rfl _ v ?_
        rw [flat_take_drop ls i, List.getElem?_append_right (by rw [flat_length, List.length_take]; omega), flat_length, List.length_take, show i * 19 + j - min i ls.length * 19 = j by omega]
        exact hj)
      (fun j hj => (there w.drew cur hg hs _ (by rw [l2] at hj; omega)).1) (fun j hj => (there w.drew cur hg hs _ (by rw [l2] at hj; omega)).2) (flat_one _)
  obtain ⟨W1, hW1⟩ : ∃ W1, W1 = w.drew.setCells g ((i + 1) * 19) (flat (ls.drop i)) := ⟨_, rfl⟩
  obtain ⟨cur1, c1, c2, c3⟩ := setCells_block g 48 (0, 0) (flat (ls.drop i)) ((i + 1) * 19) w.drew cur hg (by rw [l2, hs]; omega)
  rw [← hW1] at c1
  have hvW : ∀ W : World, W.heap[vb]? = W1.heap[vb]? → W.heap[vb]? = some (.cells x.cells.toArray 48 (0, 0)) := fun W e => by
    rw [e, hW1]
    have k := keeps_setCells g (flat (ls.drop i)) ((i + 1) * 19) w.drew
    exact (k.block vb (lt_of_block (show w.drew.heap[vb]? = _ from hv)) hvb).trans hv
  have hcp2 : ∀ (W : World), W.heap[g]? = W1.heap[g]? → W.heap[vb]? = W1.heap[vb]? → ∀ ty dc, (Builtin.copy_ #[23, 23] ty #[.slice (some ⟨g, i * 19, none⟩) (n + 1 - i) dc, .slice (some ⟨vb, 0, none⟩) 1 vc]).run Try.prog W = .ok (goInt (Nat.min 1 (n + 1 - i))) (W.setCells g (i * 19) x.cells) := fun W e1 e2 ty dc =>
    run_copy_layers W ty g (i * 19) (n + 1 - i) dc ⟨vb, 0, none⟩ 1 vc x.cells (by rw [Loc.cells_length]; simp only [Nat.min_def]; split <;> omega)
      (fun j v hj => by
        rw [add_spot, Nat.zero_add, cell_of_row _ _ _ _ _ _ (hvW W e2)]
        simpa using hj)
      (fun j hj => (there W cur1 (e1.trans c1) (c2.trans hs) _ (by rw [Loc.cells_length] at hj; omega)).1) (fun j hj => (there W cur1 (e1.trans c1) (c2.trans hs) _ (by rw [Loc.cells_length] at hj; omega)).2) x.cells_one
  obtain ⟨cur2, d1, d2, d3⟩ := setCells_block g 48 (0, 0) x.cells (i * 19) W1 cur1 c1 (by rw [c2, hs, Loc.cells_length]; omega)
  have X := Lib.hid (show OwnR B (W1.setCells g (i * 19) x.cells) 48 19 ⟨some ⟨g, 0, none⟩, n + 1, c⟩ (flat (ls.take i ++ x :: ls.drop i)) from
    ⟨⟨by rw [flat_length, List.length_append, List.length_cons, List.length_take, List.length_drop]; show _ = (n + 1) * 19; omega, .inr ⟨g, c, cur2, rfl, hB, d1, hroom, hcm, by rw [d2, c2]; exact hs, row_ins hn (by omega) hroom hs ht' c2 d2 c3 d3⟩⟩, flat_one _, by show n + 1 ≤ _; omega⟩)
  have KX := Lib.hid (show Keeps (fun q => q = g) w (W1.setCells g (i * 19) x.cells) from by
    have h1 : Keeps (fun q => q = g) w W1 := by
      rw [hW1]
      exact (show Keeps (fun q => q = g) w w.drew from (Keeps.refl _ w).drew).trans (keeps_setCells g _ _ _) (fun i hi e => e)
    exact h1.trans (keeps_setCells g _ _ _) (fun i hi e => e))
  rw [← hW1] at hcp1
  have mixed : Try.prog.follows .mixedOrders = true := by kernel_rfl
  have hwi : IntKind.i64.wrap ((i : Int) + 1) = (i : Int) + 1 := wrap_i64 _ (by omega) (by omega)
  have hz2 : ¬ ((i : Int) = (n : Int)) := by omega
  have hb1 : (0 : Int) ≤ (i : Int) + 1 := by omega
  have hin : i ≤ n := by omega
  have htn : ((i : Int) + 1).toNat = i + 1 := by omega
  have hb2 : ¬ (c = i + 1) := by omega
  have hb3 : (i : Int) ≤ (n : Int) + 1 := by omega
  have hb4 : ¬ (c = i) := by omega
  have HC1 := Lib.hid hcp1
  have HC2 := Lib.hid hcp2
  clear hcp1 hcp2 celw there hvW O hB hg hc hs ht ht' hcm l2 hW1 c1 c2 c3 d1 d2 d3 hv hvb hn
  go_enter Try.func65, Try.ntmps65
  go_wp2_with (simp only [hov])
  · go_region_law (refine step_copy_run rfl (.tmp 73) (.tmp 76) 23 23 rfl (.slice (some ⟨g, (i + 1) * 19, none⟩) (n - i) (c - (i + 1))) (.slice (some ⟨g, i * 19, none⟩) (n + 1 - i) (c - i)) (by simp [Act.eval, Act.put]) (by simp [Act.eval, Act.put]) (HC1.out _ _ _) ?_)
    go_wp2_with (refine wpList_copy_run W1 rfl (.tmp 80) (.tmp 81) 23 23 rfl (.slice (some ⟨g, i * 19, none⟩) (n + 1 - i) (c - i)) (.slice (some ⟨vb, 0, none⟩) 1 vc) rfl rfl (HC2.out W1 rfl rfl _ _) ?_)
    go_ret
    exact ⟨rfl, X.out, KX.out⟩
end Go.Proofs.Ytfcpbpfemmdklaa
