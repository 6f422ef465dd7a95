/- A layer deleted out of a row (67). (printed by genTJ.py) -/
import Derived.Test.YtfcpbpfemmdklaaD
import Derived.Lib.SliceRun
namespace Go.Proofs.Ytfcpbpfemmdklaa
open Go.RowKit
set_option linter.unusedSimpArgs false
set_option linter.unusedVariables false

def zero19 : List Value := [.int .i64 0, .int .i64 0, .bool false, .int .i64 0, .int .i64 0, .int .i64 0, .int .i64 0, .slice none 0 0, .slice none 0 0, .int .i64 0, .int .i64 0, .int .i64 0, .int .i64 0, .int .i64 0, .int .i64 0, .bool false, .int .i64 0, .slice none 0 0, .slice none 0 0]
theorem zero19_one : ∀ u ∈ zero19, u.oneCell' = true := by decide
theorem run_clear_layer (w : World) (ty : TypeId) (b o c : Nat) (hc : ∀ j, j < 19 → (w.cell? ⟨b, o + j, none⟩).isSome = true) (hf : ∀ j, j < 19 → w.frozen? ⟨b, o + j, none⟩ = false) :
    (Builtin.clear_ #[23] ty #[.slice (some ⟨b, o, none⟩) 1 c]).run Try.prog w = .ok (.tuple #[]) (w.setCells b o zero19) := by
  have hzc : (Builtin.zeroCells (Value.cells (.agg #[.int .i64 0, .int .i64 0, .bool false, .int .i64 0, .int .i64 0, .int .i64 0, .int .i64 0, .slice none 0 0, .slice none 0 0, .int .i64 0, .int .i64 0, .int .i64 0, .int .i64 0, .int .i64 0, .int .i64 0, .bool false, .int .i64 0, .slice none 0 0, .slice none 0 0])) 1).toList = zero19 := by kernel_rfl
  have hst := run_storeCells_cells (P := Try.prog) b o zero19 0 w (by intro j hj; simpa using hc j hj) (by intro j hj; simpa using hf j hj) zero19_one
  simp only [Nat.add_zero] at hst
  simp [Builtin.clear_, run_underlying Try.underlying23, Try.zeroValue48, hzc, hst]
theorem flat_take_drop (ls : List Loc) (i : Nat) : flat ls = flat (ls.take i) ++ flat (ls.drop i) := by rw [← flat_append, List.take_append_drop]
set_option maxRecDepth 100000 in
set_option maxHeartbeats 1600000 in
theorem delete_layers (B g n c i : Nat) (ls : List Loc) (w : World) (O : OwnR B w 48 19 ⟨some ⟨g, 0, none⟩, n, c⟩ (flat ls)) (hi : i < n) :
    Calls Try.prog 67 #[.slice (some ⟨g, 0, none⟩) n c, .int .i64 (i : Int), .int .i64 ((i + 1 : Nat) : Int)] w fun e w' =>
      e = .returned (.slice (some ⟨g, 0, none⟩) (n - 1) c) ∧ OwnR B w' 48 19 ⟨some ⟨g, 0, none⟩, n - 1, c⟩ (flat (ls.eraseIdx i)) ∧ Keeps (fun q => q = g) w w' := by
  have hn : n = ls.length := by
    have h1 := O.read.1.1.len
    rw [flat_length] at h1
    have h2 : ls.length * 19 = n * 19 := h1
    omega
  have hn9 : n ≤ 536870912 := O.2.2
  obtain ⟨g', c', cur, e0, hB, hg, hc, hs, ht⟩ := O.some (by show 0 < n; omega)
  simp only [Hd.mk.injEq, Option.some.injEq, Addr.mk.injEq] at e0
  obtain ⟨⟨rfl, -⟩, -, rfl⟩ := e0
  have hnc : n ≤ c := hc
  have ht' : cur.toList.take (n * 19) = flat ls := ht
  have hcm : c ≤ maxLen := by
    rcases O.1.2 with ⟨e, -⟩ | ⟨g2, cap2, cur2, e, h1, h2, h3, h4, h5⟩
    · cases e
    · cases e; exact h4
  obtain ⟨i0, hi0, hz0, hz1, hz2⟩ := info_parts info48
  obtain ⟨news, hnews⟩ : ∃ news, news = flat (ls.drop (i + 1)) := ⟨_, rfl⟩
  have hlen : news.length = (n - (i + 1)) * 19 := by rw [hnews, flat_length, List.length_drop, hn]
  have celw : ∀ w1 : World, w1.heap[g]? = w.heap[g]? → ∀ j u, (flat ls)[j]? = some u → w1.cell? ⟨g, j, none⟩ = some u := by
    intro w1 e j u hj
    have hjl : j < n * 19 := by have := (List.getElem?_eq_some_iff.1 hj).1; rw [flat_length] at this; omega
    rw [cell_of_row _ _ _ _ _ _ (e.trans hg)]
    rw [← ht', List.getElem?_take_of_lt hjl] at hj
    rw [← Array.getElem?_toList]
    exact hj
  have there : ∀ w1 : World, w1.heap[g]? = w.heap[g]? → ∀ j, j < c * 19 → (w1.cell? ⟨g, j, none⟩).isSome = true ∧ w1.frozen? ⟨g, j, none⟩ = false := by
    intro w1 e j hj
    rw [cell_of_row _ _ _ _ _ _ (e.trans hg)]
    exact ⟨by rw [Array.getElem?_eq_getElem (by omega)]; rfl, by simp [World.frozen?, e, hg]⟩
  obtain ⟨A, hA, hsrc⟩ : ∃ A : Addr, (if c = i + 1 then some (⟨g, 0, none⟩ : Addr) else some ⟨g, (i + 1) * 19, none⟩) = some A ∧ Hid (∀ t u, news[t]? = some u → w.drew.cell? (A.add t) = some u) := by
    by_cases h : c = i + 1
    · refine ⟨⟨g, 0, none⟩, by simp [h], fun t u hu => ?_⟩
      have h0 : news.length = 0 := by rw [hlen]; omega
      rw [List.length_eq_zero_iff.1 h0] at hu
      simp at hu
    · refine ⟨⟨g, (i + 1) * 19, none⟩, by simp [h], fun t u hu => ?_⟩
      rw [Addr.add_lit]
      refine celw w.drew rfl _ u ?_
      rw [flat_take_drop ls (i + 1), List.getElem?_append_right (by rw [flat_length, List.length_take]; omega), flat_length, List.length_take, show (i + 1) * 19 + t - min (i + 1) ls.length * 19 = t by omega, ← hnews]
      exact hu
  have s1 := Lib.hid hlen
  have s2 := Lib.hid (show ∀ u ∈ news, u.oneCell' = true from by rw [hnews]; exact flat_one _)
  have s3 := Lib.hid (show ∀ t, t < news.length → (w.drew.cell? ⟨g, 0 + i * 19 + t, none⟩).isSome = true ∧ w.drew.frozen? ⟨g, 0 + i * 19 + t, none⟩ = false from fun t ht2 => there w.drew rfl _ (by rw [hlen] at ht2; omega))
  obtain ⟨W1, hW1⟩ : ∃ W1, W1 = w.drew.setCells g (0 + i * 19) news := ⟨_, rfl⟩
  obtain ⟨cur1, c1, c2, c3⟩ := setCells_block g 48 (0, 0) news (0 + i * 19) w.drew cur hg (by rw [hlen]; omega)
  rw [← hW1] at c1
  have there1 : ∀ j, j < c * 19 → (W1.cell? ⟨g, j, none⟩).isSome = true ∧ W1.frozen? ⟨g, j, none⟩ = false := by
    intro j hj
    rw [cell_of_row _ _ _ _ _ _ c1]
    exact ⟨by rw [Array.getElem?_eq_getElem (by omega)]; rfl, by simp [World.frozen?, c1]⟩
  have hcl : ∀ ty, (Builtin.clear_ #[23] ty #[.slice (some ⟨g, (i + (n - (i + 1))) * 19, none⟩) (n - (i + (n - (i + 1)))) (c - (i + (n - (i + 1))))]).run Try.prog W1 = .ok (.tuple #[]) (W1.setCells g ((i + (n - (i + 1))) * 19) zero19) := by
    intro ty
    rw [show n - (i + (n - (i + 1))) = 1 by omega]
    exact run_clear_layer W1 ty g _ _ (fun j hj => (there1 _ (by omega)).1) (fun j hj => (there1 _ (by omega)).2)
  obtain ⟨cur2, d1, d2, d3⟩ := setCells_block g 48 (0, 0) zero19 ((i + (n - (i + 1))) * 19) W1 cur1 c1 (by rw [c2, hs]; show _ + 19 ≤ _; omega)
  have X := Lib.hid (show OwnR B (W1.setCells g ((i + (n - (i + 1))) * 19) zero19) 48 19 ⟨some ⟨g, 0, none⟩, n - 1, c⟩ (flat (ls.eraseIdx i)) from by
    have hel : (flat (ls.eraseIdx i)).length = (n - 1) * 19 := by rw [flat_length, List.length_eraseIdx, if_pos (by omega), hn]
    refine ⟨⟨hel, .inr ⟨g, c, cur2, rfl, hB, d1, by show n - 1 ≤ c; omega, hcm, by rw [d2, c2]; exact hs, ?_⟩⟩, flat_one _, by show n - 1 ≤ _; omega⟩
    show cur2.toList.take ((n - 1) * 19) = flat (ls.eraseIdx i)
    refine List.ext_getElem? fun j => ?_
    by_cases hj : j < (n - 1) * 19
    · rw [List.getElem?_take_of_lt hj, Array.getElem?_toList, d3 j, if_neg (by show ¬ (_ ∧ j < _ + 19); omega), c3 j, List.eraseIdx_eq_take_drop_succ, flat_append]
      have hft : (flat (ls.take i)).length = i * 19 := by rw [flat_length, List.length_take]; omega
      by_cases hji : j < i * 19
      · rw [if_neg (by omega), List.getElem?_append_left (by omega)]
        have h1 : (cur.toList.take (n * 19))[j]? = (flat ls)[j]? := by rw [ht']
        rw [List.getElem?_take_of_lt (by omega), Array.getElem?_toList] at h1
        rw [h1, flat_take_drop ls i, List.getElem?_append_left (by omega)]
      · rw [if_pos (by rw [hlen]; omega), List.getElem?_append_right (by omega), hft, ← hnews, show j - (0 + i * 19) = j - i * 19 by omega]
    · rw [List.getElem?_eq_none (by rw [List.length_take]; omega), List.getElem?_eq_none (by omega)])
  have KX := Lib.hid (show Keeps (fun q => q = g) w (W1.setCells g ((i + (n - (i + 1))) * 19) zero19) from by
    have h1 : Keeps (fun q => q = g) w W1 := by
      rw [hW1]
      exact (show Keeps (fun q => q = g) w w.drew from (Keeps.refl _ w).drew).trans (keeps_setCells g news _ _) (fun i hi e => e)
    exact h1.trans (keeps_setCells g _ _ _) (fun i hi e => e))
  have hW := Lib.hid hW1
  have hic : i ≤ c := by omega
  have hjc : i + 1 ≤ c := by omega
  have hin : i ≤ n := by omega
  have hjn : i + 1 ≤ n := by omega
  have hne : ¬ c = i + (n - (i + 1)) := by omega
  have hz1' : (0 : Int) ≤ (i : Int) + 1 := by omega
  have hz2' : (i : Int) + 1 ≤ (n : Int) := by omega
  have hz3' : (i : Int) + 1 ≤ (c : Int) := by omega
  have mixed : Try.prog.follows .mixedOrders = true := by kernel_rfl
  clear O hB hg hc hs ht ht' hcm hlen hnews celw there there1 hW1 c1 c2 c3 d1 d2 d3 hn
  go_enter Try.func67, Try.ntmps67
  go_wp2_with fail
  go_region_law (refine step_append_room rfl (.tmp 22) (.tmp 25) 23 rfl 48 i0 19 Try.underlying23 hi0 hz1 g 0 i c (by simp [Act.eval, Act.put]) A (n - (i + 1)) (c - (i + 1)) news (by simp [Act.eval, Act.put]) s1.out hsrc.out s2.out (by omega) s3.out ?_; rw [← hW.out])
  have hb1 : ((i + (n - (i + 1)) : Nat) : Int) ≤ (n : Int) := by omega
  have hb2 : (0 : Int) ≤ ((i + (n - (i + 1)) : Nat) : Int) := by omega
  have hb3 : i + (n - (i + 1)) ≤ n := by omega
  go_wp2_with fail
  go_ret
  have e9 : i + (n - (i + 1)) = n - 1 := by omega
  exact ⟨by rw [← e9]; rfl, X.out, KX.out⟩
end Go.Proofs.Ytfcpbpfemmdklaa
