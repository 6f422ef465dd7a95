/- The symbols whose number is not nought, in their order. -/
import Derived.Test.YtoiknbbimgeihaaXB
import Derived.Test.YtoiknbbimgeihaaXS
namespace Go.Proofs.Ytoiknbbimgeihaa
open Go.RowKit
set_option linter.unusedVariables false

/-- One symbol stands ahead of another. -/
def Ahead (zs : List Int) (x y : Nat) : Prop := zs.getD x 0 < zs.getD y 0 ∨ (zs.getD x 0 = zs.getD y 0 ∧ x < y)
/-- The symbols whose number is not nought. -/
def usedTo (zs : List Int) (k : Nat) : List Nat := (List.range k).filter (fun i => decide (zs.getD i 0 ≠ 0))
/-- .. in their order. -/
structure Ranked (zs : List Int) (us : List Nat) : Prop where
  perm : us.Perm (usedTo zs zs.length)
  order : us.Pairwise (Ahead zs)
theorem usedTo_succ (zs : List Int) (k : Nat) : usedTo zs (k + 1) = usedTo zs k ++ (if zs.getD k 0 ≠ 0 then [k] else []) := by
  unfold usedTo
  rw [List.range_succ, List.filter_append, List.filter_cons, List.filter_nil]
  congr 1
  by_cases h : zs.getD k 0 ≠ 0
  · rw [if_pos h, if_pos (by simpa using h)]
  · rw [if_neg h, if_neg (by simpa using h)]
theorem usedTo_length (zs : List Int) (k : Nat) : (usedTo zs k).length ≤ k := by
  have := List.length_filter_le (fun i => decide (zs.getD i 0 ≠ 0)) (List.range k)
  rw [List.length_range] at this
  exact this
theorem usedTo_lt (zs : List Int) (k i : Nat) (h : i ∈ usedTo zs k) : i < k ∧ zs.getD i 0 ≠ 0 := by
  unfold usedTo at h
  simp only [List.mem_filter, List.mem_range, decide_eq_true_eq] at h
  exact h
theorem usedTo_nodup (zs : List Int) (k : Nat) : (usedTo zs k).Nodup := List.nodup_range.filter _
def natZ (us : List Nat) : List Int := us.map (fun i : Nat => (i : Int))
theorem natZ_length (us : List Nat) : (natZ us).length = us.length := by simp [natZ]
theorem natZ_bound (us : List Nat) (B : Nat) (hB : B ≤ 16777216) (h : ∀ i ∈ us, i < B) : ∀ z ∈ natZ us, -9223372036854775808 ≤ z ∧ z ≤ 9223372036854775807 := by
  intro z hz
  simp only [natZ, List.mem_map] at hz
  obtain ⟨i, hi, rfl⟩ := hz
  have := h i hi
  omega

/-- What the library's sort is told: symbols within the list. -/
def encF {m : Nat} (x : Fin (m + 1)) : Value := .int .i64 (x.val : Nat)
def cfF (zs : List Int) {m : Nat} (x y : Fin (m + 1)) : Int := cfZ zs x.val y.val
theorem lt_cf (zs : List Int) (m : Nat) (x y : Fin (m + 1)) : ltOf (cfF zs) x y = true ↔ Ahead zs x.val y.val := by
  unfold ltOf cfF cfZ orS Lib.compareInt Ahead
  simp only [decide_eq_true_eq]
  generalize zs.getD x.val 0 = p
  generalize zs.getD y.val 0 = q
  generalize x.val = a
  generalize y.val = b
  repeat' split
  all_goals omega
theorem swo_cf (zs : List Int) (m : Nat) : Go.Sort.SWO (ltOf (cfF (m := m) zs)) := by
  refine ⟨fun x => ?_, fun x y z h1 h2 => ?_, fun x y z h1 h2 => ?_⟩
  · rw [Bool.eq_false_iff, ne_eq, lt_cf]
    unfold Ahead; omega
  · rw [lt_cf] at *
    unfold Ahead at *; omega
  · rw [Bool.eq_false_iff, ne_eq, lt_cf] at *
    unfold Ahead at *; omega

theorem block_sort {α : Type} [Inhabited α] (enc : α → Value) (w1 : World) (blk off n : Nat) (d : Array α) (os : Array Obj) (k : Nat) (hk : k ≠ blk) (hl : k < w1.heap.size) : (sortWorld enc w1 blk off n d os).heap[k]? = w1.heap[k]? := by
  unfold sortWorld Go.Sort.grow Go.Sort.putRow Go.Sort.mapBlock Go.Sort.ahead
  simp only
  rw [Array.getElem?_append_left (by simpa using hl), Array.getElem?_modify, if_neg (fun e => hk e.symm)]
theorem below_sort {α : Type} [Inhabited α] (enc : α → Value) (w w1 : World) (blk off n : Nat) (d : Array α) (os : Array Obj) (h : Below w.heap.size w w1) (hb : w.heap.size ≤ blk) : Below w.heap.size w (sortWorld enc w1 blk off n d os) := by
  refine ⟨h.os, h.tape, h.output, ?_, fun k hk => ?_⟩
  · have e : (sortWorld enc w1 blk off n d os).heap.size = w1.heap.size + os.size := by
      unfold sortWorld Go.Sort.grow Go.Sort.putRow Go.Sort.mapBlock Go.Sort.ahead
      simp
    have := h.size
    omega
  · have hs := h.size
    rw [block_sort _ _ _ _ _ _ _ k (by omega) (by omega), h.block k hk]

set_option maxHeartbeats 1600000 in
/-- The sort, of symbols. -/
theorem sort_any (w0 w : World) (zs : List Int) (m : Nat) (hl : zs.length = m + 1) (a : Option Addr) (c : Nat) (hz : Ints w a (m + 1) zs) (B blk cap : Nat) (us : List Nat) (hu : ∀ i ∈ us, i < m + 1) (hm : m < 16777216) (hul : us.length ≤ 16777216)
    (hbox : w.cell? ⟨B, 0, none⟩ = some (.slice a (m + 1) c)) (hrow : ∀ j i, us[j]? = some i → w.cell? ⟨blk, j, none⟩ = some (.int .i64 (i : Nat)) ∧ w.frozen? ⟨blk, j, none⟩ = false)
    (hb : Below w0.heap.size w0 w) (hB : B ≠ blk) (ha : ∀ x, a = some x → x.block ≠ blk) (hblk : w0.heap.size ≤ blk) (hlt : blk < w.heap.size) (hBlt : B < w.heap.size) :
    Calls Try.prog 27 #[.slice (some ⟨blk, 0, none⟩) us.length cap, .func (.func 28) #[] #[.pointer (some ⟨B, 0, none⟩)]] w fun e w' =>
      e = .returned (.tuple #[]) ∧ Below w0.heap.size w0 w' ∧ ∃ vs, vs.Perm us ∧ (us.Nodup → vs.Pairwise (Ahead zs)) ∧ Ints w' (some ⟨blk, 0, none⟩) us.length (natZ vs) := by
  have hH : Go.Sort.Holds (encF (m := m)) w blk 0 (us.map (Fin.ofNat (m + 1))).toArray := by
    intro j hj
    simp only [List.size_toArray, List.length_map] at hj
    have hg : us[j]? = some us[j] := List.getElem?_eq_getElem hj
    have hi := hu _ (List.getElem_mem hj)
    obtain ⟨h1, h2⟩ := hrow j _ hg
    have e : (us.map (Fin.ofNat (m + 1))).toArray[j]! = Fin.ofNat (m + 1) us[j] := by
      rw [getElem!_pos _ j (by simpa using hj)]
      simp
    rw [e, Nat.zero_add, h1]
    refine ⟨?_, h2⟩
    unfold encF
    rw [show (Fin.ofNat (m + 1) us[j]).val = us[j] from Nat.mod_eq_of_lt hi]
  have hsz : (us.map (Fin.ofNat (m + 1))).toArray.size = us.length := by simp
  have hcmp : CmpLays1 Try.prog 28 #[.pointer (some ⟨B, 0, none⟩)] (encF (m := m)) (cfF zs) blk 0 (us.map (Fin.ofNat (m + 1))).toArray.size w := by
    intro k os dk hdk x y
    have hbox2 : (sortWorld (encF (m := m)) w blk 0 k dk os).cell? ⟨B, 0, none⟩ = some (.slice a (m + 1) c) := by
      exact (World.cell?_of_block (w := w) (block_sort _ _ _ _ _ _ _ _ hB hBlt)).trans hbox
    have hz2 : Ints (sortWorld (encF (m := m)) w blk 0 k dk os) a (m + 1) zs := by
      obtain ⟨p1, p2, p3⟩ := hz
      refine ⟨p1, p2, fun hp => ?_⟩
      obtain ⟨b, off, e, hc⟩ := p3 hp
      refine ⟨b, off, e, fun j z hj => ?_⟩
      have hne : b ≠ blk := ha _ e
      have hbl : b < w.heap.size := World.block_lt_of_cell? w (⟨b, off + j, none⟩ : Addr) (hc j z hj)
      exact (World.cell?_of_block (w := w) (block_sort _ _ _ _ _ _ _ _ hne hbl)).trans (hc j z hj)
    exact (closure_any _ B a (m + 1) c zs x.val y.val x.isLt y.isLt hbox2 hz2).mono fun e w' h => h
  have eg : ∀ args w, (callFunc 28 args).run Try.prog w = .ok (.enter 28 args) w := enters_of Try.func28 (by kernel_rfl) rfl
  have hc := Any.slices_SortFunc (P := Try.prog) (ρ := sortL_ren) sortL (encF (m := m)) (fun _ => rfl) (cfF zs) (swo_cf zs m) 28 #[.pointer (some ⟨B, 0, none⟩)] blk 0 cap _ w eg hcmp hH hlt (by rw [hsz]; omega)
  rw [hsz] at hc
  change Calls Try.prog 27 _ _ _ at hc
  refine hc.mono ?_
  rintro e w' ⟨rfl, d', n, os, hp, hs, rfl⟩
  have hd : d'.size = us.length := by rw [hp.1, hsz]
  have hpl : d'.toList.Perm (us.map (Fin.ofNat (m + 1))) := by
    have := hp.2.2
    rw [Array.extract_eq_self_of_le (by omega), Array.extract_eq_self_of_le (by omega)] at this
    simpa using this
  have hmap : (us.map (Fin.ofNat (m + 1))).map Fin.val = us := by
    rw [List.map_map]
    conv => rhs; rw [← List.map_id us]
    apply List.map_congr_left
    intro i hi
    exact Nat.mod_eq_of_lt (hu i hi)
  have hvp : (d'.toList.map Fin.val).Perm us := by
    have := hpl.map Fin.val
    rwa [hmap] at this
  have hget : ∀ j (hj : j < d'.size), d'[j]! = d'[j] := fun j hj => getElem!_pos _ j hj
  refine ⟨rfl, below_sort _ _ _ _ _ _ _ _ hb hblk, d'.toList.map Fin.val, hvp, fun hnd => ?_, ?_⟩
  · have hnd2 : (d'.toList.map Fin.val).Nodup := hvp.nodup_iff.2 hnd
    rw [List.pairwise_iff_getElem]
    intro i j hi hj hij
    simp only [List.length_map, Array.length_toList] at hi hj
    have h1 := hs i j (Nat.zero_le _) hij (by omega)
    rw [hget i (by omega), hget j (by omega), Bool.eq_false_iff, ne_eq, lt_cf] at h1
    simp only [List.getElem_map, Array.getElem_toList]
    have h2 : d'[i].val ≠ d'[j].val := by
      intro e
      have := (List.pairwise_iff_getElem.1 hnd2) i j (by simpa using hi) (by simpa using hj) hij
      simp only [List.getElem_map, Array.getElem_toList] at this
      exact this e
    unfold Ahead at *
    omega
  · refine ⟨by rw [natZ_length, hvp.length_eq], natZ_bound _ (m + 1) (by omega) (fun i hi => ?_), fun _ => ⟨blk, 0, rfl, fun j z hj => ?_⟩⟩
    · simp only [List.mem_map] at hi
      obtain ⟨x, _, rfl⟩ := hi
      exact x.isLt
    · have hH2 := holds_sortWorld (encF (m := m)) w blk 0 n _ d' os hlt hH (by rw [hsz]; exact hd)
      have hjl : j < d'.size := by
        have := (List.getElem?_eq_some_iff.1 hj).1
        simpa [natZ] using this
      have e := (hH2 j hjl).1
      rw [hget j hjl] at e
      rw [e]
      unfold natZ at hj
      rw [List.map_map, List.getElem?_map, Array.getElem?_toList, Array.getElem?_eq_getElem hjl] at hj
      simp only [Option.map_some, Option.some.injEq, Function.comp] at hj
      rw [← hj]
      rfl
end Go.Proofs.Ytoiknbbimgeihaa
