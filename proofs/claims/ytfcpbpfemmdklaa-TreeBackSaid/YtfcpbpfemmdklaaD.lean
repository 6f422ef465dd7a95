/- Copies of layers, all. (printed by genTD.py) -/
import Derived.Test.YtfcpbpfemmdklaaC
import Derived.Deep.MidRow
namespace Go.Proofs.Ytfcpbpfemmdklaa
open Go.RowKit
set_option linter.unusedSimpArgs false
set_option linter.unusedVariables false

theorem OwnR.some {B : Nat} {w : World} {h : Hd} {vs : List Value} (o : OwnR B w 48 19 h vs) (hn : 0 < h.n) : ∃ g c cur, h = ⟨some ⟨g, 0, none⟩, h.n, c⟩ ∧ B ≤ g ∧ w.heap[g]? = some (.cells cur 48 (0, 0)) ∧ h.n ≤ c ∧ cur.size = c * 19 ∧ cur.toList.take (h.n * 19) = vs := by
  obtain ⟨a, n, c⟩ := h
  rcases o.1.2 with ⟨e, e2⟩ | ⟨g, cap, cur, e, h1, h2, h3, h4, h5, h6⟩
  · simp only at e2 hn; omega
  · simp only [Value.slice.injEq] at e
    obtain ⟨rfl, -, rfl⟩ := e
    exact ⟨g, c, cur, rfl, h1, h2, h3, h5, h6⟩
theorem keeps_setCells (g : Nat) : ∀ (vs : List Value) (o : Nat) (w : World), Keeps (fun q => q = g) w (w.setCells g o vs)
  | [], o, w => Keeps.refl _ _
  | v :: vs, o, w => (keeps_at w g o v).trans (keeps_setCells g vs (o + 1) _) (fun i hi e => e)
theorem setCells_block (g : Nat) (t : TypeId) (f : Nat × Nat) : ∀ (vs : List Value) (o : Nat) (w : World) (cur : Array Value), w.heap[g]? = some (.cells cur t f) → o + vs.length ≤ cur.size →
    ∃ cur', (w.setCells g o vs).heap[g]? = some (.cells cur' t f) ∧ cur'.size = cur.size ∧ ∀ j, cur'[j]? = if o ≤ j ∧ j < o + vs.length then vs[j - o]? else cur[j]?
  | [], o, w, cur, h, hl => ⟨cur, h, rfl, fun j => by rw [if_neg (by simp only [List.length_nil]; omega)]⟩
  | v :: vs, o, w, cur, h, hl => by
    rw [List.length_cons] at hl
    obtain ⟨cur', h1, h2, h3⟩ := setCells_block g t f vs (o + 1) _ _ (block_set (i := o) h v) (by simp only [Array.size_setIfInBounds]; omega)
    refine ⟨cur', h1, by rw [h2, Array.size_setIfInBounds], fun j => ?_⟩
    rw [h3 j, List.length_cons]
    by_cases hj : j = o
    · subst hj
      rw [if_neg (by omega), if_pos (by omega), Nat.sub_self, Array.getElem?_setIfInBounds, if_pos rfl, if_pos (by omega)]
      rfl
    · by_cases hj2 : o + 1 ≤ j ∧ j < o + 1 + vs.length
      · rw [if_pos hj2, if_pos (by omega), show j - o = (j - (o + 1)) + 1 by omega, List.getElem?_cons_succ]
      · rw [if_neg hj2, if_neg (by omega), Array.getElem?_setIfInBounds, if_neg (fun e => hj e.symm)]
theorem row_put {cur cur' : Array Value} {m o : Nat} {A L L' C : List Value} (ht : cur.toList.take m = A ++ (L ++ C)) (ho : A.length = o) (hl : L.length = 19) (hl' : L'.length = 19) (hs : cur'.size = cur.size)
    (hj : ∀ j, cur'[j]? = if o ≤ j ∧ j < o + 19 then L'[j - o]? else cur[j]?) : cur'.toList.take m = A ++ (L' ++ C) := by
  refine List.ext_getElem? fun j => ?_
  have h1 : (cur.toList.take m)[j]? = (A ++ (L ++ C))[j]? := by rw [ht]
  have hlen : (cur.toList.take m).length = (A ++ (L ++ C)).length := by rw [ht]
  rw [List.length_take, List.length_append, List.length_append, Array.length_toList] at hlen
  by_cases hm : j < m
  · rw [List.getElem?_take_of_lt hm] at h1 ⊢
    rw [Array.getElem?_toList] at h1 ⊢
    rw [hj j]
    by_cases h2 : o ≤ j ∧ j < o + 19
    · rw [if_pos h2, List.getElem?_append_right (by omega), List.getElem?_append_left (by omega), ho]
    · rw [if_neg h2, h1]
      by_cases h3 : j < o
      · rw [List.getElem?_append_left (by omega), List.getElem?_append_left (by omega)]
      · rw [List.getElem?_append_right (by omega), List.getElem?_append_right (by omega), List.getElem?_append_right (by omega), List.getElem?_append_right (by omega), hl, hl']
  · rw [List.getElem?_eq_none (by rw [List.length_take]; omega), List.getElem?_eq_none (by rw [List.length_append, List.length_append, hl']; omega)]
theorem flat_one1 (l : Loc) : flat [l] = l.cells := by rw [flat, flat, List.append_nil]
theorem take_more {α : Type} {ys : List α} {i : Nat} {y : α} (h : ys[i]? = some y) : ys.take (i + 1) = ys.take i ++ [y] := by
  rw [List.take_add_one, h]; rfl
set_option maxRecDepth 100000 in
set_option maxHeartbeats 1600000 in
theorem copies_of (ls : List Loc) (H : ∀ l ∈ ls, Copied l) : Copies ls := by
  intro h w hr hp
  have HR := Lib.hid hr
  have HP := Lib.hid hp
  have HC := Lib.hid H
  have hn : h.n = ls.length := by
    have h1 := hr.1.len
    rw [flat_length] at h1
    omega
  have HN := Lib.hid (And.intro hn hr.2)
  clear hr hp H hn
  go_enter Try.func39, Try.ntmps39
  go_wp2_with fail
  refine (clone_layers h (flat ls) _ HR.out.1 HR.out.2).mono ?_
  rintro e w1 ⟨v', rfl, hv, hk⟩
  obtain ⟨h', rfl, ho⟩ := clone_own hv (flat_one _) HR.out.2
  obtain ⟨a', n, c'⟩ := h'
  have NL := Lib.hid (show n = ls.length from by
    have h1 := ho.read.1.1.len
    rw [flat_length] at h1
    simp only at h1
    omega)
  have HO := Lib.hid ho
  have K1 := Lib.hid hk
  have HB := Lib.hid (show ∀ b ∈ Hd.blk ⟨a', n, c'⟩, b < w1.heap.size from fun b hb => (ho.range b hb).2)
  clear hv ho hk
  dsimp only
  go_wp2_with fail
  go_loopw [9] (fun cnt wi => ∃ i : Nat, i ≤ n ∧ cnt = .int .i64 i ∧ ∃ ls', er ls' = er (ls.take i) ∧ OwnR w.heap.size wi 48 19 ⟨a', n, c'⟩ (flat (ls' ++ ls.drop i)) ∧ Own w1.heap.size wi ls' ∧ Keeps none' w wi ∧ w1.heap.size ≤ wi.heap.size ∧ (blks ls').Nodup) (fun cnt _ => n - (intOf cnt).toNat)
  case atStart => exact ⟨0, Nat.zero_le _, rfl, [], by simp, by simpa using HO.out, by unfold Own; rw [All]; trivial, K1.out, Nat.le_refl _, by unfold blks; rw [hds]; simp⟩
  case round =>
    obtain ⟨i, hi, rfl, ls', h1, h2, h3, h4, h5, h6⟩ := hrel
    have E1 := Lib.hid h1
    have E2 := Lib.hid h2
    have E3 := Lib.hid h3
    have E4 := Lib.hid h4
    have E5 := Lib.hid h5
    have E6 := Lib.hid h6
    have n29 := HN.out.2
    have nls := NL.out
    have n30 : n ≤ 536870912 := by have := HN.out.1; omega
    clear h1 h2 h3 h4 h5 h6
    by_cases hlt : i < n
    · have hii : (i : Int) < n := by omega
      obtain ⟨l, hl⟩ : ∃ l, ls[i]? = some l := ⟨_, List.getElem?_eq_getElem (by omega)⟩
      obtain ⟨g, c, cur, hh, hB, hg, hc, hs, ht⟩ := E2.out.some (by show 0 < n; omega)
      simp only [Hd.mk.injEq] at hh
      obtain ⟨rfl, -, rfl⟩ := hh
      have ll : ls'.length = i := by
        have h1 := er_length ls'
        rw [E1.out, er_length, List.length_take] at h1
        omega
      have RG := Lib.hid (show wr.rangeAt g (i * 19) l.cells from fun j u hj => by
        rw [cell_of_row _ _ _ _ _ _ hg]
        have h1 : (ls' ++ ls.drop i)[i]? = some l := by rw [List.getElem?_append_right (by omega), ll, Nat.sub_self, List.getElem?_drop, Nat.add_zero]; exact hl
        have h2 := flat_at _ i l h1 j u hj
        have hj19 : j < 19 := by have := (List.getElem?_eq_some_iff.1 hj).1; rw [Loc.cells_length] at this; exact this
        rw [← ht, List.getElem?_take_of_lt (by simp only; omega)] at h2
        rw [← Array.getElem?_toList]
        exact h2)
      have TH := Lib.hid (show ∀ w' : World, w'.heap[g]? = wr.heap[g]? → w'.there g (i * 19) 19 from fun w' e j hj => by
        rw [cell_of_row _ _ _ _ _ _ (e.trans hg)]
        refine ⟨by rw [Array.getElem?_eq_getElem (by simp only at hc; rw [hs]; omega)]; rfl, by simp [World.frozen?, e, hg]⟩)
      have GL := Lib.hid (lt_of_block hg)
      have GB := Lib.hid (HB.out g (by unfold Hd.blk; simp))
      have SZL : (Try.prog.info? 48).map (·.size) = some l.cells.length := by rw [Loc.cells_length]; exact size48
      have SZA : (Try.prog.info? 48).map (·.size) = some l.cells.toArray.size := by rw [List.size_toArray, Loc.cells_length]; exact size48
      have SZB : 19 = l.cells.toArray.size := by rw [List.size_toArray, Loc.cells_length]
      have ALLL : l.cells.toArray.all (·.oneCell') = true := by
        rw [Array.all_eq_true_iff_forall_mem]
        intro u hu
        exact l.cells_one u (by simpa using hu)
      have LF := Lib.hid (And.intro SZL (And.intro SZA (And.intro SZB ALLL)))
      clear SZL SZA SZB ALLL
      have HL := Lib.hid hl
      have HCS := Lib.hid (And.intro hc (And.intro hs ht))
      have HG := Lib.hid hg
      have HBG := Lib.hid hB
      clear hc hs ht hl hg hB ll nls
      go_upto_region 5 with (first
        | (refine wpList_load_mid rfl 48 _ rfl g (i * 19) rfl l.cells _ RG.out Try.underlying48 rfl LF.out.1 ?_)
        | (refine wpList_store_row rfl 48 _ _ rfl wr.heap.size l.cells.toArray rfl rfl 48 _ (heap_alloc_new _ _) LF.out.2.1 (by exact LF.out.2.2.1) LF.out.2.2.2 ?_))
      have LB := Lib.hid (setRow_heap (wr.alloc (.cells #[.int .i64 0, .int .i64 0, .bool false, .int .i64 0, .int .i64 0, .int .i64 0, .int .i64 0, .slice none 0 0, .slice none 0 0, .int .i64 0, .int .i64 0, .int .i64 0, .int .i64 0, .int .i64 0, .int .i64 0, .bool false, .int .i64 0, .slice none 0 0, .slice none 0 0] 48)) wr.heap.size _ l.cells.toArray _ _ (heap_alloc_new wr (.cells #[.int .i64 0, .int .i64 0, .bool false, .int .i64 0, .int .i64 0, .int .i64 0, .int .i64 0, .slice none 0 0, .slice none 0 0, .int .i64 0, .int .i64 0, .int .i64 0, .int .i64 0, .int .i64 0, .int .i64 0, .bool false, .int .i64 0, .slice none 0 0, .slice none 0 0] 48)))
      have K2 := Lib.hid (((Keeps.refl none' wr).alloc (.cells #[.int .i64 0, .int .i64 0, .bool false, .int .i64 0, .int .i64 0, .int .i64 0, .int .i64 0, .slice none 0 0, .slice none 0 0, .int .i64 0, .int .i64 0, .int .i64 0, .int .i64 0, .int .i64 0, .int .i64 0, .bool false, .int .i64 0, .slice none 0 0, .slice none 0 0] 48)).setRow (Nat.le_refl _) l.cells.toArray)
      generalize (wr.alloc (.cells #[.int .i64 0, .int .i64 0, .bool false, .int .i64 0, .int .i64 0, .int .i64 0, .int .i64 0, .slice none 0 0, .slice none 0 0, .int .i64 0, .int .i64 0, .int .i64 0, .int .i64 0, .int .i64 0, .int .i64 0, .bool false, .int .i64 0, .slice none 0 0, .slice none 0 0] 48)).setRow wr.heap.size l.cells.toArray = w2 at *
      obtain ⟨L, hL⟩ : ∃ L, L = wr.heap.size := ⟨_, rfl⟩
      rw [← hL] at LB
      rw [← hL]
      clear hL
      go_wp2_with (first
        | (refine wpList_load_row rfl 48 _ rfl L rfl 48 l.cells.toArray (0, 0) _ LB.out Try.underlying48 rfl LF.out.2.1 ?_))
      refine (HC.out l (List.mem_of_getElem? HL.out) w2 ((All.one HP.out HL.out).imp fun _ _ _ _ _ o => o.keep (E4.out.next K2.out) (fun _ _ h => h))).mono ?_
      rintro e w3 ⟨l', rfl, hcp⟩
      have CP := Lib.hid hcp
      clear hcp
      have G3 := Lib.hid (show w3.heap[g]? = some (.cells cur 48 (0, 0)) from ((CP.out.keeps.later g (by have := K2.out.size; have := GL.out; omega)).trans (K2.out.later g GL.out)).trans HG.out)
      have LF' := Lib.hid (show (Try.prog.info? 48).map (·.size) = some l'.cells.toArray.size ∧ l'.cells.toArray.size = 19 ∧ l'.cells.toArray.all (·.oneCell') = true from by
        have e19 : l'.cells.toArray.size = 19 := by rw [List.size_toArray, Loc.cells_length]
        refine ⟨by rw [e19]; exact size48, e19, ?_⟩
        rw [Array.all_eq_true_iff_forall_mem]
        intro u hu
        exact l'.cells_one u (by simpa using hu))
      have T3 := Lib.hid (show w3.there g (i * 19) l'.cells.toArray.size from by rw [LF'.out.2.1]; exact TH.out w3 (G3.out.trans HG.out.symm))
      obtain ⟨w4, hw4⟩ : ∃ w4, w4 = w3.setCells g (i * 19) l'.cells.toArray.toList := ⟨_, rfl⟩
      have W4 := Lib.hid hw4
      go_wp2_with (first
        | (refine wpList_store_mid rfl 48 _ _ rfl g (i * 19) l'.cells.toArray rfl rfl T3.out LF'.out.1 LF'.out.2.2 ?_; rw [← hw4]; clear hw4))
      have K4 := Lib.hid (show Keeps (fun q => q = g) w3 w4 from by rw [W4.out]; exact keeps_setCells g _ _ _)
      obtain ⟨cur', c1, c2, c3⟩ := setCells_block g 48 (0, 0) l'.cells (i * 19) w3 cur G3.out (by have := HCS.out.1; have := HCS.out.2.1; rw [Loc.cells_length]; omega)
      rw [show w3.setCells g (i * 19) l'.cells = w4 from by rw [W4.out]] at c1
      have hd : ls.drop i = l :: ls.drop (i + 1) := by
        have hi2 := (List.getElem?_eq_some_iff.1 HL.out).1
        have hg2 := (List.getElem?_eq_some_iff.1 HL.out).2
        rw [List.drop_eq_getElem_cons hi2, hg2]
      have ll : ls'.length = i := by
        have h1 := er_length ls'
        rw [E1.out, er_length, List.length_take] at h1
        have := NL.out
        omega
      have hrow : cur'.toList.take (n * 19) = flat ((ls' ++ [l']) ++ ls.drop (i + 1)) := by
        rw [List.append_assoc, flat_append, List.singleton_append, flat]
        refine row_put (o := i * 19) (L := l.cells) ?_ (by rw [flat_length, ll]) (Loc.cells_length _) (Loc.cells_length _) c2 (fun j => by rw [c3 j, Loc.cells_length])
        have h1 := HCS.out.2.2
        rw [hd, flat_append, flat] at h1
        exact h1
      have R5 := Lib.hid (show OwnR w.heap.size w4 48 19 ⟨some ⟨g, 0, none⟩, n, c'⟩ (flat ((ls' ++ [l']) ++ ls.drop (i + 1))) from by
        refine ⟨⟨?_, .inr ⟨g, c', cur', rfl, HBG.out, c1, HCS.out.1, ?_, by rw [c2]; exact HCS.out.2.1, hrow⟩⟩, flat_one _, by have := NL.out; have := HN.out; show n ≤ _; omega⟩
        · show (flat ((ls' ++ [l']) ++ ls.drop (i + 1))).length = n * 19
          have h1 : n ≤ c' := HCS.out.1
          rw [← hrow, List.length_take, Array.length_toList, c2, HCS.out.2.1]
          omega
        · rcases E2.out.1.2 with ⟨e, -⟩ | ⟨g2, cap2, cur2, e, h1, h2, h3, h4, h5⟩
          · cases e
          · cases e; exact h4)
      have O5 := Lib.hid (show Own w1.heap.size w4 (ls' ++ [l']) from All.append.2 ⟨((E3.out.later K2.out).later CP.out.keeps).keep K4.out (fun b hb e => by have := (E3.out.range b hb).1; have := GB.out; omega),
        (CP.out.own.keep K4.out (fun b hb e => by have := (CP.out.own.range b hb).1; have := GL.out; have := K2.out.size; omega)).low (by have := E5.out; have := K2.out.size; omega)⟩)
      have K5 := Lib.hid (((E4.out.next K2.out).next CP.out.keeps).trans K4.out (fun q hq e => by have e' : q = g := e; have := HBG.out; omega))
      have S5 := Lib.hid (show w1.heap.size ≤ w4.heap.size from by have := E5.out; have := K2.out.size; have := CP.out.keeps.size; have := K4.out.size; omega)
      have N5 := Lib.hid (show (blks (ls' ++ [l'])).Nodup from by
        rw [blks_append]
        exact nodup_app E6.out CP.out.nodup (fun x hx => (E3.out.range x hx).2) (fun y hy => by have := (CP.out.own.range y hy).1; have := K2.out.size; omega))
      have R1 := Lib.hid (show er (ls' ++ [l']) = er (ls.take (i + 1)) from by rw [er_append, E1.out, CP.out.same, take_more HL.out, er_append])
      clear c1 c2 c3 hd ll hrow
      go_wp2_with fail
      go_roundw
      case rel => exact ⟨i + 1, by omega, by go_num, ls' ++ [l'], R1.out, R5.out, O5.out, K5.out, S5.out, N5.out⟩
      case measure => simp [intOf]; omega
    · obtain rfl : i = n := by omega
      have t8 : decide (i < i) = false := by simp
      clear nls
      go_wp2_with fail
      go_ret
      have hd : ls.drop i = [] := List.drop_eq_nil_of_le (by have := NL.out; omega)
      have htk : ls.take i = ls := List.take_of_length_le (by have := NL.out; omega)
      refine ⟨⟨a', i, c'⟩, ls', rfl, ?_, E3.out.low K1.out.size, by rw [E1.out, htk], E4.out, ?_⟩
      · have h1 := E2.out
        rw [hd, List.append_nil] at h1
        exact h1
      · exact nodup_app (Hd.blk_nodup _) E6.out (fun x hx => HB.out x hx) (fun y hy => (E3.out.range y hy).1)
theorem copies_fuel : ∀ (n : Nat) (ls : List Loc), SizeOf.sizeOf ls ≤ n → Copies ls
  | 0, ls, h => by cases ls <;> simp at h
  | n + 1, ls, h => copies_of ls (fun l hl => by
    cases l with
    | mk d p m q k kids =>
      have hs := List.sizeOf_lt_of_mem hl
      simp only [Loc.mk.sizeOf_spec] at hs
      exact copied_of d p m q k kids (copies_fuel n kids (by omega)))
/-- Layers, copied: whatever they are. -/
theorem copies_any (ls : List Loc) : Copies ls := copies_fuel _ ls (Nat.le_refl _)
theorem copied_any (l : Loc) : Copied l := by
  cases l with
  | mk d p m q k kids => exact copied_of d p m q k kids (copies_any kids)
end Go.Proofs.Ytfcpbpfemmdklaa
