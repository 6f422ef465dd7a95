/- Lengths that were bought cost least, in the counts' own order. -/
import Derived.Test.YtoiknbbimgeihaaXJ
import Derived.Test.YtoiknbbimgeihaaL
namespace Go.Proofs.Ytoiknbbimgeihaa
open Go.RowKit
set_option linter.unusedVariables false

/-- How often a symbol was met. -/
def met (us L : List Nat) (s : Nat) : Nat := (L.filter (fun c => decide (s ∈ us.take c))).length
theorem met_nil (us : List Nat) (s : Nat) : met us [] s = 0 := rfl
theorem met_snoc (us L : List Nat) (c s : Nat) : met us (L ++ [c]) s = met us L s + (if s ∈ us.take c then 1 else 0) := by
  unfold met
  rw [List.filter_append, List.length_append, List.filter_cons, List.filter_nil]
  by_cases h : s ∈ us.take c
  · rw [if_pos h, if_pos (by simpa using h)]; rfl
  · rw [if_neg h, if_neg (by simpa using h)]; rfl
theorem met_le (us L : List Nat) (s : Nat) : met us L s ≤ L.length := List.length_filter_le _ _
theorem met_out (us L : List Nat) (s : Nat) (h : s ∉ us) : met us L s = 0 := by
  unfold met
  rw [List.length_eq_zero_iff, List.filter_eq_nil_iff]
  intro c _ hc
  simp only [decide_eq_true_eq] at hc
  exact h (List.mem_of_mem_take hc)
theorem nodup_inj {us : List Nat} (hn : us.Nodup) {i j : Nat} (hi : i < us.length) (hj : j < us.length) (h : us[i] = us[j]) : i = j := by
  have hp := List.pairwise_iff_getElem.1 hn
  rcases Nat.lt_trichotomy i j with h1 | h1 | h1
  · exact absurd h (hp i j hi hj h1)
  · exact h1
  · exact absurd h.symm (hp j i hj hi h1)
theorem met_at {us : List Nat} (hn : us.Nodup) (L : List Nat) {r : Nat} (hr : r < us.length) : met us L us[r] = (L.filter (fun c => decide (r < c))).length := by
  unfold met
  congr 1
  apply List.filter_congr
  intro c _
  congr 1
  rw [eq_iff_iff]
  constructor
  · intro h
    obtain ⟨i, hi⟩ := List.mem_iff_getElem?.1 h
    rw [List.getElem?_take] at hi
    split at hi
    · rename_i hic
      have hil := (List.getElem?_eq_some_iff.1 hi).1
      have : i = r := by
        rw [List.getElem?_eq_getElem hil, Option.some.injEq] at hi
        exact nodup_inj hn hil hr hi
      omega
    · cases hi
  · intro h
    refine List.mem_iff_getElem?.2 ⟨r, ?_⟩
    rw [List.getElem?_take_of_lt h, List.getElem?_eq_getElem hr]

theorem dot_maps (L : List Nat) (f g : Nat → Nat) : Huff.dot (L.map f) (L.map g) = (L.map (fun i => f i * g i)).sum := by
  induction L with
  | nil => rfl
  | cons a L ih => simp only [List.map_cons, Huff.dot_cons, ih, List.sum_cons]
theorem dot_maps_perm {L M : List Nat} (h : L.Perm M) (f g : Nat → Nat) : Huff.dot (L.map f) (L.map g) = Huff.dot (M.map f) (M.map g) := by
  rw [dot_maps, dot_maps]
  exact (h.map _).sum_nat
theorem used_pos {zs : List Int} (hz : ∀ z ∈ zs, 0 ≤ z) : usedTo zs zs.length = posI zs := by
  unfold usedTo posI
  apply List.filter_congr
  intro i hi
  have hl : i < zs.length := List.mem_range.1 hi
  have := hz _ (getD_mem hl)
  generalize zs.getD i 0 = v at *
  by_cases h : v = 0
  · subst h; rfl
  · rw [decide_eq_true h, decide_eq_true (show 0 < v by omega)]
theorem ranked_sorted {zs : List Int} {us : List Nat} (h : us.Pairwise (Ahead zs)) : (pricesOf zs us).Pairwise (· ≤ ·) := by
  unfold pricesOf
  rw [List.pairwise_map]
  exact h.imp (fun {a b} h => by unfold Ahead at h; omega)

/-- Least lengths, moved from the symbols' order to the counts'. -/
theorem best_of {zs ls : List Int} {us : List Nat} {most : Nat} (hz : ∀ z ∈ zs, 0 ≤ z) (hr : Ranked zs us) (hlen : ls.length = zs.length) (hout : ∀ s, s ∉ us → ls.getD s 0 = 0)
    (hmay : Huff.May most (pricesOf zs us) (us.map (fun s => (ls.getD s 0).toNat))) (hbest : ∀ fs, Huff.May most (pricesOf zs us) fs → Huff.dot (pricesOf zs us) (us.map (fun s => (ls.getD s 0).toNat)) ≤ Huff.dot (pricesOf zs us) fs)
    (hnn : ∀ s, 0 ≤ ls.getD s 0) : Best zs ls most := by
  have hp : us.Perm (posI zs) := by rw [← used_pos hz]; exact hr.perm
  have hws : (pricesOf zs us).Perm (wsOf zs) := hp.map _
  have hes : (us.map (fun s => (ls.getD s 0).toNat)).Perm (esOf zs ls) := hp.map _
  have hin : ∀ i, i < zs.length → 0 < zs.getD i 0 → i ∈ us := fun i hi h0 => by
    refine hp.symm.subset ?_
    unfold posI
    simp only [List.mem_filter, List.mem_range, decide_eq_true_eq]
    exact ⟨hi, h0⟩
  refine ⟨hlen, fun i hi h0 => hout i (fun hmem => ?_), fun i hi h0 => ?_, hmay.perm hes hws.length_eq, fun fs hfs => ?_⟩
  · have := hp.subset hmem
    unfold posI at this
    simp only [List.mem_filter, decide_eq_true_eq] at this
    omega
  · have hm : (ls.getD i 0).toNat ∈ us.map (fun s => (ls.getD s 0).toNat) := List.mem_map.2 ⟨i, hin i hi h0, rfl⟩
    have h1 := hmay.pos _ hm
    have h2 := hmay.le _ hm
    have h3 := hnn i
    omega
  · obtain ⟨gs, hg, hd⟩ := Huff.dot_perm hws.symm fs (by rw [hfs.len])
    have e : Huff.dot (wsOf zs) (esOf zs ls) = Huff.dot (pricesOf zs us) (us.map (fun s => (ls.getD s 0).toNat)) := (dot_maps_perm hp _ _).symm
    rw [e, ← hd]
    exact hbest gs (hfs.perm hg hws.length_eq.symm)
theorem range_getD (n : Nat) (F : Nat → Int) (s : Nat) : ((List.range n).map F).getD s 0 = if s < n then F s else 0 := by
  rw [List.getD_eq_getElem?_getD, List.getElem?_map]
  by_cases h : s < n
  · rw [if_pos h, List.getElem?_range h]; rfl
  · rw [if_neg h, List.getElem?_eq_none (by simp; omega)]; rfl
theorem ranked_lt {zs : List Int} {us : List Nat} (h : Ranked zs us) : ∀ s ∈ us, s < zs.length := fun s hs => (usedTo_lt _ _ _ (h.perm.subset hs)).1
theorem fit_of {zs : List Int} {us : List Nat} {most : Nat} (hr : Ranked zs us) (h1 : 1 ≤ most) (hfit : us.length ≤ 2 ^ most) : 2 * us.length - 2 ≤ (Huff.rowP (pricesOf zs us) most).length := by
  by_cases hk : 2 ≤ us.length
  · have := (Huff.bought_best (pricesOf zs us) (by simpa [pricesOf] using hk) (ranked_sorted hr.order) most h1 (by simpa [pricesOf] using hfit)).1
    simpa [pricesOf] using this
  · omega
theorem lens_best {zs : List Int} {us : List Nat} {most : Nat} (hz : ∀ z ∈ zs, 0 ≤ z) (hr : Ranked zs us) (hk : us.length ≠ 1) (h1 : 1 ≤ most) (hfit : us.length ≤ 2 ^ most) :
    Best zs ((List.range zs.length).map (fun s => ((met us (Huff.bought (pricesOf zs us) most (2 * us.length - 2)) s : Nat) : Int))) most := by
  have hnd : us.Nodup := (hr.perm.nodup_iff).2 (usedTo_nodup _ _)
  have hlt := ranked_lt hr
  have hpl : (pricesOf zs us).length = us.length := by simp [pricesOf]
  have hes : us.map (fun s => (((List.range zs.length).map (fun s => ((met us (Huff.bought (pricesOf zs us) most (2 * us.length - 2)) s : Nat) : Int))).getD s 0).toNat) = (List.range us.length).map (fun r => ((Huff.bought (pricesOf zs us) most (2 * us.length - 2)).filter (fun c => decide (r < c))).length) := by
    apply List.ext_getElem
    · simp
    · intro r h2 h3
      have hr2 : r < us.length := by simpa using h2
      rw [List.getElem_map, List.getElem_map, List.getElem_range, range_getD, if_pos (hlt _ (List.getElem_mem hr2)), Int.toNat_natCast, met_at hnd _ hr2]
  refine best_of hz hr (by simp) (fun s hs => ?_) ?_ ?_ (fun s => ?_)
  · rw [range_getD]
    split
    · rw [met_out _ _ _ hs]; rfl
    · rfl
  · rw [hes]
    by_cases h2 : 2 ≤ us.length
    · have := (Huff.bought_best (pricesOf zs us) (by rw [hpl]; exact h2) (ranked_sorted hr.order) most h1 (by rw [hpl]; exact hfit)).2.1
      rw [hpl] at this
      exact this
    · have h0 : us.length = 0 := by omega
      rw [h0]
      exact ⟨by rw [hpl, h0]; rfl, fun e he => by simp at he, fun e he => by simp at he, by simp [Huff.kraft]⟩
  · intro fs hfs
    rw [hes]
    by_cases h2 : 2 ≤ us.length
    · have := (Huff.bought_best (pricesOf zs us) (by rw [hpl]; exact h2) (ranked_sorted hr.order) most h1 (by rw [hpl]; exact hfit)).2.2 fs hfs
      rw [hpl] at this
      exact this
    · have h0 : us.length = 0 := by omega
      rw [h0]
      have : pricesOf zs us = [] := List.eq_nil_of_length_eq_zero (by rw [hpl, h0])
      rw [this, Huff.dot_nil]
      exact Nat.zero_le _
  · rw [range_getD]
    split
    · omega
    · omega
theorem lens_one {zs : List Int} {us : List Nat} {most : Nat} {t : Nat} (hz : ∀ z ∈ zs, 0 ≤ z) (hr : Ranked zs us) (hk : us = [t]) (h1 : 1 ≤ most) :
    Best zs ((List.range zs.length).map (fun s => if s = t then 1 else 0)) most := by
  have hlt := ranked_lt hr t (by rw [hk]; exact List.mem_cons_self)
  have hes : us.map (fun s => (((List.range zs.length).map (fun s => if s = t then (1 : Int) else 0)).getD s 0).toNat) = [1] := by
    rw [hk, List.map_cons, List.map_nil, range_getD, if_pos hlt, if_pos rfl]; rfl
  have hws : pricesOf zs us = [(zs.getD t 0).toNat] := by rw [hk]; rfl
  refine best_of hz hr (by simp) (fun s hs => ?_) ?_ ?_ (fun s => ?_)
  · rw [range_getD]
    split
    · rw [if_neg (fun e => hs (by rw [hk, e]; exact List.mem_cons_self))]
    · rfl
  · rw [hes, hws]
    refine ⟨rfl, fun e he => by simp at he; omega, fun e he => by simp at he; omega, ?_⟩
    simp only [Huff.kraft]
    have := Nat.pow_le_pow_right (show 0 < 2 by omega) (show most - 1 ≤ most by omega)
    omega
  · intro fs hfs
    rw [hes, hws] at *
    match fs, hfs.len with
    | [f], _ =>
      have := hfs.pos f List.mem_cons_self
      simp only [Huff.dot_cons, Huff.dot_nil]
      have := Nat.le_mul_of_pos_right (zs.getD t 0).toNat this
      omega
  · rw [range_getD]
    split
    · split <;> omega
    · omega
end Go.Proofs.Ytoiknbbimgeihaa
