/- Texts of a layer, one behind the other. -/
import Derived.Test.YtpmoknnhgginjaaDoorProg
import Derived.Shelf.SlSortCmp.NoneTotal
import Derived.Test.YtpmoknnhgginjaaDoorGSd
import Derived.Deep.DeepMust
import Derived.LoopTactic
import Derived.RegionTactic
import Derived.BigRegion
/- slices.SortFunc of whole numbers: the library's own text, as it lies in this program. -/
namespace Go.Proofs.YtpmoknnhgginjaaDoor.Hu
open Go.Shelf
def sortL_ren : Go.Shelf.Ren := ⟨fun | 6 => 66 | 15 => 71 | 14 => 70 | 28 => 81 | 29 => 82 | 20 => 73 | 21 => 74 | 22 => 75 | 23 => 76 | 24 => 77 | 25 => 78 | 26 => 79 | 27 => 80 | 46 => 83 | 47 => 84 | 48 => 85 | 49 => 86 | 50 => 87 | 57 => 88 | n => n, fun | 22 => 35 | 24 => 3 | 25 => 98 | 3 => 3 | 39 => 62 | 0 => 0 | 53 => 110 | 55 => 112 | 4 => 4 | 46 => 104 | 45 => 103 | 50 => 65 | 5 => 5 | 9 => 9 | 66 => 113 | 70 => 117 | 76 => 119 | 77 => 41 | n => n, fun | n => n⟩
theorem sortL : Go.Proofs.SlLaysF.n6 Tryd.prog sortL_ren := {
  mixed := by kernel_rfl
  f6 := ⟨Tryd.f66.name, by decide, Tryd.func66.trans (congrArg some (by kernel_rfl))⟩
  f14 := ⟨Tryd.f70.name, by decide, Tryd.func70.trans (congrArg some (by kernel_rfl))⟩
  f15 := Tryd.func71.trans (congrArg some (by kernel_rfl))
  f20 := ⟨Tryd.f73.name, by decide, Tryd.func73.trans (congrArg some (by kernel_rfl))⟩
  f21 := ⟨Tryd.f74.name, by decide, Tryd.func74.trans (congrArg some (by kernel_rfl))⟩
  f22 := ⟨Tryd.f75.name, by decide, Tryd.func75.trans (congrArg some (by kernel_rfl))⟩
  f23 := ⟨Tryd.f76.name, by decide, Tryd.func76.trans (congrArg some (by kernel_rfl))⟩
  f24 := ⟨Tryd.f77.name, by decide, Tryd.func77.trans (congrArg some (by kernel_rfl))⟩
  f25 := ⟨Tryd.f78.name, by decide, Tryd.func78.trans (congrArg some (by kernel_rfl))⟩
  f26 := ⟨Tryd.f79.name, by decide, Tryd.func79.trans (congrArg some (by kernel_rfl))⟩
  f27 := ⟨Tryd.f80.name, by decide, Tryd.func80.trans (congrArg some (by kernel_rfl))⟩
  f28 := Tryd.func81.trans (congrArg some (by kernel_rfl))
  f29 := Tryd.func82.trans (congrArg some (by kernel_rfl))
  f46 := ⟨Tryd.f83.name, by decide, Tryd.func83.trans (congrArg some (by kernel_rfl))⟩
  f47 := Tryd.func84.trans (congrArg some (by kernel_rfl))
  f48 := Tryd.func85.trans (congrArg some (by kernel_rfl))
  f49 := ⟨Tryd.f86.name, by decide, Tryd.func86.trans (congrArg some (by kernel_rfl))⟩
  f50 := ⟨Tryd.f87.name, by decide, Tryd.func87.trans (congrArg some (by kernel_rfl))⟩
  f57 := ⟨Tryd.f88.name, by decide, Tryd.func88.trans (congrArg some (by kernel_rfl))⟩
  t0 := Tryd.underlying0
  a0 := Tryd.isAgg0
  z0 := Tryd.sizeOf0
  v0 := Tryd.zeroValue0
  t3 := Tryd.underlying3
  a3 := Tryd.isAgg3
  z3 := Tryd.sizeOf3
  v3 := Tryd.zeroValue3
  t4 := Tryd.underlying4
  a4 := Tryd.isAgg4
  z4 := Tryd.sizeOf4
  v4 := Tryd.zeroValue4
  t5 := Tryd.underlying5
  a5 := Tryd.isAgg5
  z5 := Tryd.sizeOf5
  v5 := Tryd.zeroValue5
  t9 := Tryd.underlying9
  a9 := Tryd.isAgg9
  z9 := Tryd.sizeOf9
  v9 := Tryd.zeroValue9
  t22 := Tryd.underlying35
  a22 := Tryd.isAgg35
  z22 := Tryd.sizeOf35
  v22 := Tryd.zeroValue35
  a24 := Tryd.isAgg3
  z24 := Tryd.sizeOf3
  t25 := Tryd.underlying98
  a25 := Tryd.isAgg98
  z25 := Tryd.sizeOf98
  v25 := Tryd.zeroValue98
  t39 := Tryd.underlying62
  a39 := Tryd.isAgg62
  z39 := Tryd.sizeOf62
  v39 := Tryd.zeroValue62
  t45 := Tryd.underlying103
  a45 := Tryd.isAgg103
  z45 := Tryd.sizeOf103
  v45 := Tryd.zeroValue103
  t46 := Tryd.underlying104
  a46 := Tryd.isAgg104
  z46 := Tryd.sizeOf104
  v46 := Tryd.zeroValue104
  t50 := Tryd.underlying65
  a50 := Tryd.isAgg65
  z50 := Tryd.sizeOf65
  v50 := Tryd.zeroValue65
  t53 := Tryd.underlying110
  a53 := Tryd.isAgg110
  z53 := Tryd.sizeOf110
  v53 := Tryd.zeroValue110
  t55 := Tryd.underlying112
  a55 := Tryd.isAgg112
  z55 := Tryd.sizeOf112
  v55 := Tryd.zeroValue112
  t66 := Tryd.underlying113
  a66 := Tryd.isAgg113
  z66 := Tryd.sizeOf113
  v66 := Tryd.zeroValue113
  t70 := Tryd.underlying117
  a70 := Tryd.isAgg117
  z70 := Tryd.sizeOf117
  v70 := Tryd.zeroValue117
  t76 := Tryd.underlying119
  a76 := Tryd.isAgg119
  z76 := Tryd.sizeOf119
  v76 := Tryd.zeroValue119
  t77 := Tryd.underlying41
  a77 := Tryd.isAgg41
  z77 := Tryd.sizeOf41
  v77 := Tryd.zeroValue41 }
end Go.Proofs.YtpmoknnhgginjaaDoor.Hu

/- The symbols whose number is not nought, in their order. -/
namespace Go.Proofs.YtpmoknnhgginjaaDoor.Hu
open Go.RowKit
set_option linter.unusedVariables false

/-- One symbol stands ahead of another. -/
def Ahead (zs : List Int) (x y : Nat) : Prop := zs.getD x 0 < zs.getD y 0 ∨ (zs.getD x 0 = zs.getD y 0 ∧ x < y)
/-- The symbols whose number is not nought. -/
def usedTo (zs : List Int) (k : Nat) : List Nat := (List.range k).filter (fun i => decide (zs.getD i 0 ≠ 0))
/-- .. in their order. -/
structure Ranked (zs : List Int) (us : List Nat) : Prop where
  perm : us.Perm (usedTo zs zs.length)
  order : us.Pairwise (Ahead zs)
theorem usedTo_succ (zs : List Int) (k : Nat) : usedTo zs (k + 1) = usedTo zs k ++ (if zs.getD k 0 ≠ 0 then [k] else []) := by
  unfold usedTo
  rw [List.range_succ, List.filter_append, List.filter_cons, List.filter_nil]
  congr 1
  by_cases h : zs.getD k 0 ≠ 0
  · rw [if_pos h, if_pos (by simpa using h)]
  · rw [if_neg h, if_neg (by simpa using h)]
theorem usedTo_length (zs : List Int) (k : Nat) : (usedTo zs k).length ≤ k := by
  have := List.length_filter_le (fun i => decide (zs.getD i 0 ≠ 0)) (List.range k)
  rw [List.length_range] at this
  exact this
theorem usedTo_lt (zs : List Int) (k i : Nat) (h : i ∈ usedTo zs k) : i < k ∧ zs.getD i 0 ≠ 0 := by
  unfold usedTo at h
  simp only [List.mem_filter, List.mem_range, decide_eq_true_eq] at h
  exact h
theorem usedTo_nodup (zs : List Int) (k : Nat) : (usedTo zs k).Nodup := List.nodup_range.filter _
def natZ (us : List Nat) : List Int := us.map (fun i : Nat => (i : Int))
theorem natZ_length (us : List Nat) : (natZ us).length = us.length := by simp [natZ]
theorem natZ_bound (us : List Nat) (B : Nat) (hB : B ≤ 16777216) (h : ∀ i ∈ us, i < B) : ∀ z ∈ natZ us, -9223372036854775808 ≤ z ∧ z ≤ 9223372036854775807 := by
  intro z hz
  simp only [natZ, List.mem_map] at hz
  obtain ⟨i, hi, rfl⟩ := hz
  have := h i hi
  omega

/-- What the library's sort is told: symbols within the list. -/
def encF {m : Nat} (x : Fin (m + 1)) : Value := .int .i64 (x.val : Nat)
def cfF (zs : List Int) {m : Nat} (x y : Fin (m + 1)) : Int := cfZ zs x.val y.val
theorem lt_cf (zs : List Int) (m : Nat) (x y : Fin (m + 1)) : ltOf (cfF zs) x y = true ↔ Ahead zs x.val y.val := by
  unfold ltOf cfF cfZ orS Lib.compareInt Ahead
  simp only [decide_eq_true_eq]
  generalize zs.getD x.val 0 = p
  generalize zs.getD y.val 0 = q
  generalize x.val = a
  generalize y.val = b
  repeat' split
  all_goals omega
theorem swo_cf (zs : List Int) (m : Nat) : Go.Sort.SWO (ltOf (cfF (m := m) zs)) := by
  refine ⟨fun x => ?_, fun x y z h1 h2 => ?_, fun x y z h1 h2 => ?_⟩
  · rw [Bool.eq_false_iff, ne_eq, lt_cf]
    unfold Ahead; omega
  · rw [lt_cf] at *
    unfold Ahead at *; omega
  · rw [Bool.eq_false_iff, ne_eq, lt_cf] at *
    unfold Ahead at *; omega

theorem block_sort {α : Type} [Inhabited α] (enc : α → Value) (w1 : World) (blk off n : Nat) (d : Array α) (os : Array Obj) (k : Nat) (hk : k ≠ blk) (hl : k < w1.heap.size) : (sortWorld enc w1 blk off n d os).heap[k]? = w1.heap[k]? := by
  unfold sortWorld Go.Sort.grow Go.Sort.putRow Go.Sort.mapBlock Go.Sort.ahead
  simp only
  rw [Array.getElem?_append_left (by simpa using hl), Array.getElem?_modify, if_neg (fun e => hk e.symm)]
theorem below_sort {α : Type} [Inhabited α] (enc : α → Value) (w w1 : World) (blk off n : Nat) (d : Array α) (os : Array Obj) (h : Below w.heap.size w w1) (hb : w.heap.size ≤ blk) : Below w.heap.size w (sortWorld enc w1 blk off n d os) := by
  refine ⟨h.os, h.tape, h.output, ?_, fun k hk => ?_⟩
  · have e : (sortWorld enc w1 blk off n d os).heap.size = w1.heap.size + os.size := by
      unfold sortWorld Go.Sort.grow Go.Sort.putRow Go.Sort.mapBlock Go.Sort.ahead
      simp
    have := h.size
    omega
  · have hs := h.size
    rw [block_sort _ _ _ _ _ _ _ k (by omega) (by omega), h.block k hk]

set_option maxRecDepth 100000 in
set_option maxHeartbeats 1600000 in
/-- The sort, of symbols. -/
theorem sort_any (w0 w : World) (zs : List Int) (m : Nat) (hl : zs.length = m + 1) (a : Option Addr) (c : Nat) (hz : Ints w a (m + 1) zs) (B blk cap : Nat) (us : List Nat) (hu : ∀ i ∈ us, i < m + 1) (hm : m < 16777216) (hul : us.length ≤ 16777216)
    (hbox : w.cell? ⟨B, 0, none⟩ = some (.slice a (m + 1) c)) (hrow : ∀ j i, us[j]? = some i → w.cell? ⟨blk, j, none⟩ = some (.int .i64 (i : Nat)) ∧ w.frozen? ⟨blk, j, none⟩ = false)
    (hb : Below w0.heap.size w0 w) (hB : B ≠ blk) (ha : ∀ x, a = some x → x.block ≠ blk) (hblk : w0.heap.size ≤ blk) (hlt : blk < w.heap.size) (hBlt : B < w.heap.size) :
    Calls Tryd.prog 66 #[.slice (some ⟨blk, 0, none⟩) us.length cap, .func (.func 67) #[] #[.pointer (some ⟨B, 0, none⟩)]] w fun e w' =>
      e = .returned (.tuple #[]) ∧ Below w0.heap.size w0 w' ∧ ∃ vs, vs.Perm us ∧ (us.Nodup → vs.Pairwise (Ahead zs)) ∧ Ints w' (some ⟨blk, 0, none⟩) us.length (natZ vs) := by
  have hH : Go.Sort.Holds (encF (m := m)) w blk 0 (us.map (Fin.ofNat (m + 1))).toArray := by
    intro j hj
    simp only [List.size_toArray, List.length_map] at hj
    have hg : us[j]? = some us[j] := List.getElem?_eq_getElem hj
    have hi := hu _ (List.getElem_mem hj)
    obtain ⟨h1, h2⟩ := hrow j _ hg
    have e : (us.map (Fin.ofNat (m + 1))).toArray[j]! = Fin.ofNat (m + 1) us[j] := by
      rw [getElem!_pos _ j (by simpa using hj)]
      simp
    rw [e, Nat.zero_add, h1]
    refine ⟨?_, h2⟩
    unfold encF
    rw [show (Fin.ofNat (m + 1) us[j]).val = us[j] from Nat.mod_eq_of_lt hi]
  have hsz : (us.map (Fin.ofNat (m + 1))).toArray.size = us.length := by simp
  have hcmp : CmpLays1 Tryd.prog 67 #[.pointer (some ⟨B, 0, none⟩)] (encF (m := m)) (cfF zs) blk 0 (us.map (Fin.ofNat (m + 1))).toArray.size w := by
    intro k os dk hdk x y
    have hbox2 : (sortWorld (encF (m := m)) w blk 0 k dk os).cell? ⟨B, 0, none⟩ = some (.slice a (m + 1) c) := by
      exact (World.cell?_of_block (w := w) (block_sort _ _ _ _ _ _ _ _ hB hBlt)).trans hbox
    have hz2 : Ints (sortWorld (encF (m := m)) w blk 0 k dk os) a (m + 1) zs := by
      obtain ⟨p1, p2, p3⟩ := hz
      refine ⟨p1, p2, fun hp => ?_⟩
      obtain ⟨b, off, e, hc⟩ := p3 hp
      refine ⟨b, off, e, fun j z hj => ?_⟩
      have hne : b ≠ blk := ha _ e
      have hbl : b < w.heap.size := World.block_lt_of_cell? w (⟨b, off + j, none⟩ : Addr) (hc j z hj)
      exact (World.cell?_of_block (w := w) (block_sort _ _ _ _ _ _ _ _ hne hbl)).trans (hc j z hj)
    exact (closure_any _ B a (m + 1) c zs x.val y.val x.isLt y.isLt hbox2 hz2).mono fun e w' h => h
  have eg : ∀ args w, (callFunc 67 args).run Tryd.prog w = .ok (.enter 67 args) w := enters_of Tryd.func67 (by kernel_rfl) rfl
  have hc := Any.slices_SortFunc (P := Tryd.prog) (ρ := sortL_ren) sortL (encF (m := m)) (fun _ => rfl) (cfF zs) (swo_cf zs m) 67 #[.pointer (some ⟨B, 0, none⟩)] blk 0 cap _ w eg hcmp hH hlt (by rw [hsz]; omega)
  rw [hsz] at hc
  change Calls Tryd.prog 66 _ _ _ at hc
  refine hc.mono ?_
  rintro e w' ⟨rfl, d', n, os, hp, hs, rfl⟩
  have hd : d'.size = us.length := by rw [hp.1, hsz]
  have hpl : d'.toList.Perm (us.map (Fin.ofNat (m + 1))) := by
    have := hp.2.2
    rw [Array.extract_eq_self_of_le (by omega), Array.extract_eq_self_of_le (by omega)] at this
    simpa using this
  have hmap : (us.map (Fin.ofNat (m + 1))).map Fin.val = us := by
    rw [List.map_map]
    conv => rhs; rw [← List.map_id us]
    apply List.map_congr_left
    intro i hi
    exact Nat.mod_eq_of_lt (hu i hi)
  have hvp : (d'.toList.map Fin.val).Perm us := by
    have := hpl.map Fin.val
    rwa [hmap] at this
  have hget : ∀ j (hj : j < d'.size), d'[j]! = d'[j] := fun j hj => getElem!_pos _ j hj
  refine ⟨rfl, below_sort _ _ _ _ _ _ _ _ hb hblk, d'.toList.map Fin.val, hvp, fun hnd => ?_, ?_⟩
  · have hnd2 : (d'.toList.map Fin.val).Nodup := hvp.nodup_iff.2 hnd
    rw [List.pairwise_iff_getElem]
    intro i j hi hj hij
    simp only [List.length_map, Array.length_toList] at hi hj
    have h1 := hs i j (Nat.zero_le _) hij (by omega)
    rw [hget i (by omega), hget j (by omega), Bool.eq_false_iff, ne_eq, lt_cf] at h1
    simp only [List.getElem_map, Array.getElem_toList]
    have h2 : d'[i].val ≠ d'[j].val := by
      intro e
      have := (List.pairwise_iff_getElem.1 hnd2) i j (by simpa using hi) (by simpa using hj) hij
      simp only [List.getElem_map, Array.getElem_toList] at this
      exact this e
    unfold Ahead at *
    omega
  · refine ⟨by rw [natZ_length, hvp.length_eq], natZ_bound _ (m + 1) (by omega) (fun i hi => ?_), fun _ => ⟨blk, 0, rfl, fun j z hj => ?_⟩⟩
    · simp only [List.mem_map] at hi
      obtain ⟨x, _, rfl⟩ := hi
      exact x.isLt
    · have hH2 := holds_sortWorld (encF (m := m)) w blk 0 n _ d' os hlt hH (by rw [hsz]; exact hd)
      have hjl : j < d'.size := by
        have := (List.getElem?_eq_some_iff.1 hj).1
        simpa [natZ] using this
      have e := (hH2 j hjl).1
      rw [hget j hjl] at e
      rw [e]
      unfold natZ at hj
      rw [List.map_map, List.getElem?_map, Array.getElem?_toList, Array.getElem?_eq_getElem hjl] at hj
      simp only [Option.map_some, Option.some.injEq, Function.comp] at hj
      rw [← hj]
      rfl
end Go.Proofs.YtpmoknnhgginjaaDoor.Hu

/- The walk of ranked. -/
namespace Go.Proofs.YtpmoknnhgginjaaDoor.Hu
open Go.RowKit
set_option linter.unusedVariables false

theorem wpList_append_ints {w : World} {ops : Array Oper} {rest : List Oper} {o : Oper} {a : Act} {Q : Exit → Act → World → Prop} (hgd : o.guard = none) (s x : Operand) (ho : o.op = .call { callee := .builtin .append, args := #[s, x], argTypes := #[35, 35] })
    (base n : Nat) (v : Value) (xs : List Int) (hs : a.eval s = v) (hown : w.ownsRow base 3 1 v n (vals xs))
    (ad : Option Addr) (m c : Nat) (ds : List Int) (hx : a.eval x = .slice ad m c) (hb : Ints w ad m ds) (hc : ad = none → m = 0 ∧ c = 0) (hn : n ≤ 33554432) (hm : m ≤ 33554432) (hbase : base ≤ w.heap.size)
    (h : ∀ aa cap w', w'.ownsRow base 3 1 (.slice aa (n + m) cap) (n + m) (vals (xs ++ ds)) → w.grownBy w' v.ownBlock → ((Value.slice aa (n + m) cap).ownBlock = v.ownBlock ∨ (Value.slice aa (n + m) cap).ownBlock = some w.heap.size) → wpList Tryd.prog ops Q rest (a.put o.dst (.slice aa (n + m) cap)) w') :
    wpList Tryd.prog ops Q (o :: rest) a w := by
  refine wpList_plain hgd fun K hK => ?_
  obtain ⟨aa, cap, w', hr, h1, h2, h3⟩ := run_append_ints w o.type base n v xs hown ad m c ds hb hc hn hm hbase
  unfold Oper.wp execOp
  simp only [ho, resolve, invoke, builtin, Sem.run_bind, Sem.run_pure, Result.andThen_ok, List.map_toArray, List.map_cons, List.map_nil, hs, hx, hr]
  exact hK _ _ (h aa cap w' h1 h2 h3)
theorem grown_below {B : Nat} {w w1 w2 : World} {row : Option Nat} (hB : B ≤ w.heap.size) (h : Below B w w1) (hg : w1.grownBy w2 row) (hv : ∀ k, row = some k → B ≤ k) : Below B w w2 :=
  h.trans ⟨hg.os, hg.tape, hg.output, hg.size, fun k hk => hg.block k (Nat.lt_of_lt_of_le hk (Nat.le_trans hB h.size)) (fun e => by have := hv k e.symm; omega)⟩
theorem own_lt {w : World} {B n : Nat} {v : Value} {xs : List Value} (h : w.ownsRow B 3 1 v n xs) : ∀ k, v.ownBlock = some k → B ≤ k ∧ k < w.heap.size := by
  intro k hk
  rcases h.2 with ⟨rfl, _⟩ | ⟨g, cap, cur, rfl, hb, hg, _⟩
  · cases hk
  · cases hk
    refine ⟨hb, ?_⟩
    rcases Nat.lt_or_ge g w.heap.size with hlt | hge
    · exact hlt
    · rw [Array.getElem?_eq_none hge] at hg; cases hg
theorem one_ints (w : World) (z : Int) (h : -9223372036854775808 ≤ z ∧ z ≤ 9223372036854775807) : Ints (w.alloc (.cells #[.int .i64 z] 3)) (some ⟨w.heap.size, 0, none⟩) 1 [z] := by
  refine ⟨rfl, fun x hx => by simp at hx; omega, fun _ => ⟨_, 0, rfl, fun j x hj => ?_⟩⟩
  rw [World.cell?_alloc_mark, Nat.zero_add]
  match j, hj with
  | 0, hj => cases hj; rfl
  | j + 1, hj => simp at hj

theorem own_row {w : World} {B n c : Nat} {aa : Option Addr} {us : List Nat} (h : w.ownsRow B 3 1 (.slice aa n c) n (vals (natZ us))) (hn : 0 < n) :
    ∃ g, aa = some ⟨g, 0, none⟩ ∧ B ≤ g ∧ g < w.heap.size ∧ us.length = n ∧ ∀ j i, us[j]? = some i → w.cell? ⟨g, j, none⟩ = some (.int .i64 (i : Nat)) ∧ w.frozen? ⟨g, j, none⟩ = false := by
  obtain ⟨hl, h2⟩ := h
  rw [vals_length, natZ_length] at hl
  rcases h2 with ⟨_, e2⟩ | ⟨g, cap, cur, e, hB, hh, p1, p2, p3, p4⟩
  · omega
  · cases e
    have hg : g < w.heap.size := by
      rcases Nat.lt_or_ge g w.heap.size with hlt | hge
      · exact hlt
      · rw [Array.getElem?_eq_none hge] at hh; cases hh
    refine ⟨g, rfl, hB, hg, by omega, fun j i hj => ?_⟩
    have hj2 : (vals (natZ us))[j]? = (cur.toList.take (n * 1))[j]? := by rw [p4]
    have hjl : j < n := by have := (List.getElem?_eq_some_iff.1 hj).1; omega
    unfold vals natZ at hj2
    rw [List.getElem?_take_of_lt (by omega), List.getElem?_map, List.getElem?_map, hj] at hj2
    have hj3 : cur[j]? = some (.int .i64 (i : Nat)) := by simpa using hj2.symm
    exact ⟨by simp [World.cell?, hh, hj3], by simp [World.frozen?, hh]⟩

def RankSay (w : World) (zs : List Int) (e : Ending) (w' : World) : Prop :=
  ∃ aa cap us, e = .returned (.slice aa us.length cap) ∧ us.length ≤ cap ∧ Ranked zs us ∧ Ints w' aa us.length (natZ us) ∧ (∀ x, aa = some x → w.heap.size ≤ x.block) ∧ Below w.heap.size w w'
theorem zs_getD {zs : List Int} {i : Nat} {z : Int} (h : zs[i]? = some z) : zs.getD i 0 = z := by rw [List.getD_eq_getElem?_getD, h]; rfl
theorem natZ_append (us vs : List Nat) : natZ (us ++ vs) = natZ us ++ natZ vs := by simp [natZ]

set_option maxRecDepth 100000 in
set_option maxHeartbeats 1600000 in
theorem ranked_any (w : World) (a : Option Addr) (n c : Nat) (zs : List Int) (h : Ints w a n zs) (hn : n ≤ 16777216) :
    Calls Tryd.prog 65 #[.slice a n c] w (RankSay w zs) := by
  have hbox : (w.alloc (.cells #[.slice a n c] 35)).cell? ⟨w.heap.size, 0, none⟩ = some (.slice a n c) := by
    rw [World.cell?_alloc_mark]; rfl
  have HZ := Lib.hid h
  have kb : Below w.heap.size w (w.alloc (.cells #[.slice a n c] 35)) := (Below.refl _ _).alloc (Nat.le_refl _) _
  have hs0 : (w.alloc (.cells #[.slice a n c] 35)).heap.size = w.heap.size + 1 := Array.size_push _
  have HS := Lib.hid hs0
  have ZB := Lib.hid (h.below kb)
  have KB := Lib.hid kb
  have HBOX := Lib.hid hbox
  clear h hs0 kb
  go_enter Tryd.func65, Tryd.ntmps65
  go_wp2_with fail
  generalize w.alloc (.cells #[.slice a n c] 35) = w1 at *
  go_loopw [3, 8] (fun v cnt wr => ∃ (i : Nat) (aa : Option Addr) (k cap : Nat), i ≤ n ∧ cnt = .int .i64 i ∧ v = .slice aa k cap ∧ (usedTo zs i).length = k ∧ wr.ownsRow w1.heap.size 3 1 (.slice aa k cap) k (vals (natZ (usedTo zs i))) ∧ Below w1.heap.size w1 wr) (fun _ cnt _ => n - (intOf cnt).toNat)
  case atStart => exact ⟨0, none, 0, 0, Nat.zero_le _, rfl, rfl, rfl, World.ownsRow_nil _ _ _ _, Below.refl _ _⟩
  case round =>
    obtain ⟨i, aa, k, cap, hi, rfl, rfl, hk, hown, hb⟩ := hrel
    by_cases hlt : i < n
    · obtain ⟨b, off, z, rfl, hz, hzb, hcell⟩ := (ZB.out.below hb).at hlt
      have HG := Lib.hid (zs_getD hz)
      have HU := Lib.hid (usedTo_succ zs i)
      have HO := Lib.hid hown
      have HB := Lib.hid hb
      have HK := Lib.hid hk
      have hkn := usedTo_length zs i
      rw [hk] at hkn
      clear hz hown hb hk hzb
      by_cases hz0 : z = 0
      · subst hz0
        have X : usedTo zs (i + 1) = usedTo zs i := by rw [HU.out, HG.out]; simp
        have X := Lib.hid X
        go_wp2_with fail
        go_roundw
        case rel => exact ⟨i + 1, aa, k, cap, by omega, by go_num, rfl, by rw [X.out]; exact HK.out, by rw [X.out]; exact HO.out, HB.out⟩
        case measure => simp [intOf]; omega
      · have X : usedTo zs (i + 1) = usedTo zs i ++ [i] := by rw [HU.out, HG.out, if_pos hz0]
        have X := Lib.hid X
        have u1 : decide (z = 0) = false := by simpa using hz0
        have u2 : (z == 0) = false := by simpa using hz0
        have u3 : (z != 0) = true := by simpa using hz0
        have u4 : decide (¬ z = 0) = true := by simpa using hz0
        have hsz : w1.heap.size ≤ wr.heap.size := HB.out.size
        have hpush : (wr.alloc (.cells #[.int .i64 i] 3)).heap.size = wr.heap.size + 1 := Array.size_push _
        have HO2 := Lib.hid (own_kept (w' := wr.alloc (.cells #[.int .i64 i] 3)) HO.out (fun q hq => Below.heap_alloc _ _ _ (own_lt HO.out q hq).2))
        go_wp2_with (at_builtin; go_must (refine wpList_append_ints rfl (.tmp 15) (.tmp 17) rfl w1.heap.size k (.slice aa k cap) (natZ (usedTo zs i)) rfl ?e1 (some ⟨wr.heap.size, 0, none⟩) 1 1 [(i : Int)] rfl ?e2 (by intro e; cases e) (by omega) (by omega) ?e3 ?e4))
        case e1 => exact HO2.out
        case e2 => exact one_ints wr i (by omega)
        case e3 => rw [hpush]; omega
        case e4 =>
          intro aa2 cap2 w2 hown hg hat
          have hk2 : Below w1.heap.size w1 w2 := grown_below (Nat.le_refl _) (HB.out.alloc hsz _) hg (fun q e => (own_lt HO.out q e).1)
          rw [show natZ (usedTo zs i) ++ [(i : Int)] = natZ (usedTo zs (i + 1)) by rw [X.out, natZ_append]; rfl] at hown
          have Y := Lib.hid (And.intro hown hk2)
          clear hown hk2 hg hat
          go_wp2_with fail
          go_roundw
          case rel => exact ⟨i + 1, aa2, k + 1, cap2, by omega, by go_num, rfl, by rw [X.out, List.length_append, HK.out]; rfl, Y.out.1, Y.out.2⟩
          case measure => simp [intOf]; omega
    · obtain rfl : i = n := by omega
      have HLN := HZ.out.1
      subst HLN
      have HK := Lib.hid hk
      have HB1 := Lib.hid hb
      have KW := Lib.hid (below_more KB.out hb (Nat.le_refl _))
      by_cases hk0 : k = 0
      · subst hk0
        have hnil : usedTo zs zs.length = [] := List.eq_nil_of_length_eq_zero hk
        have HR : Ranked zs [] := ⟨by rw [hnil], List.Pairwise.nil⟩
        have HR := Lib.hid HR
        have HAA : ∀ x, aa = some x → w.heap.size ≤ x.block := fun x hx => by
          have h5 := (own_lt hown x.block (by rw [hx]; rfl)).1
          have h6 := HS.out
          omega
        have HAA := Lib.hid HAA
        have C0 : Calls Tryd.prog 66 #[.slice aa 0 cap, .func (.func 67) #[] #[.pointer (some ⟨w.heap.size, 0, none⟩)]] wr fun e w' => e = .returned (.tuple #[]) ∧ w' = wr :=
          AnyF.slices_SortFunc_none (P := Tryd.prog) (ρ := sortL_ren) { sortL with } aa cap _ wr
        have C0 := Lib.hid C0
        clear hown hb hk hnil hi hlt
        go_wp2_with fail
        refine C0.out.mono ?_
        rintro e w2 ⟨rfl, hw⟩
        obtain rfl := hw.symm
        go_wp2_with fail
        go_ret
        exact ⟨aa, cap, [], rfl, Nat.zero_le _, HR.out, ⟨rfl, fun z hz => by simp [natZ] at hz, fun hp => absurd hp (by simp)⟩, HAA.out, KW.out⟩
      · have hcp : k ≤ cap := by
          rcases hown.2 with ⟨_, e2⟩ | ⟨g, cp, cur, e, hB, hh, p1, _⟩
          · omega
          · cases e; exact p1
        obtain ⟨g, rfl, hBg, hgl, hul, hrow⟩ := own_row hown (by omega)
        have hm : 0 < zs.length := by have := usedTo_length zs zs.length; omega
        obtain ⟨m, hm⟩ : ∃ m, zs.length = m + 1 := ⟨zs.length - 1, by omega⟩
        have C0 := sort_any w wr zs m hm a c (by have := ZB.out.below hb; rwa [hm] at this) w.heap.size g cap (usedTo zs zs.length) (fun i h => by have := (usedTo_lt _ _ _ h).1; omega) (by omega) (by have := usedTo_length zs zs.length; omega)
          (by rw [← hm]; exact (World.cell?_of_block (w := w1) (hb.block _ (by rw [HS.out]; exact Nat.lt_succ_self _))).trans HBOX.out) hrow KW.out (by have := HS.out; omega)
          (fun x hx => by
            obtain ⟨b, off, z, e, _, _, hcl⟩ := HZ.out.at (i := 0) (by omega)
            rw [hx] at e
            cases e
            have := World.block_lt_of_cell? w (⟨b, off + 0, none⟩ : Addr) hcl
            have h5 := HS.out
            simp only at this ⊢
            omega) (by have := HS.out; omega) hgl (by have := HS.out; omega)
        rw [hk] at C0
        have C0 := Lib.hid C0
        have HP := Lib.hid (usedTo_nodup zs zs.length)
        clear hown hb hrow hi hlt hbox
        go_wp2_with fail
        refine C0.out.mono ?_
        rintro e w2 ⟨rfl, hb2, vs, hp, hord, hints⟩
        have HF := Lib.hid (And.intro (And.intro hb2 hp) (And.intro (hord HP.out) hints))
        have hvl : vs.length = k := by rw [hp.length_eq, hk]
        clear hb2 hp hord hints
        subst hvl
        go_wp2_with fail
        go_ret
        exact ⟨_, cap, vs, rfl, hcp, ⟨HF.out.1.2, HF.out.2.1⟩, HF.out.2.2, fun x hx => by cases hx; have := HS.out; simp only; omega, HF.out.1.1⟩
end Go.Proofs.YtpmoknnhgginjaaDoor.Hu

/- The walk of Codes. -/
namespace Go.Proofs.YtpmoknnhgginjaaDoor.Hu
open Go.RowKit
set_option linter.unusedVariables false

theorem nats_getD {zs : List Int} (i : Nat) : (nats zs).getD i 0 = (zs.getD i 0).toNat := by
  unfold nats
  rw [List.getD_eq_getElem?_getD, List.getD_eq_getElem?_getD, List.getElem?_map]
  cases zs[i]? <;> simp
theorem lens_range {zs : List Int} (h : lensOk zs = true) (i : Nat) : 0 ≤ zs.getD i 0 ∧ zs.getD i 0 ≤ 16 := by
  unfold lensOk at h
  simp only [decide_eq_true_eq] at h
  rw [List.getD_eq_getElem?_getD]
  cases hz : zs[i]? with
  | none => simp
  | some z => exact h.2 z (List.mem_of_getElem? hz)
/-- Lengths in their order: the document's. -/
theorem ranked_ordered {zs : List Int} {us : List Nat} (hl : lensOk zs = true) (h : Ranked zs us) : us = Huff.ordered (nats zs) 16 := by
  have hg := fun i => nats_getD (zs := zs) i
  have hr := fun i => lens_range hl i
  have hp : us.Perm (Huff.ordered (nats zs) 16) := by
    refine h.perm.trans ?_
    refine (List.perm_ext_iff_of_nodup (usedTo_nodup _ _) (Huff.nodup_ordered _ _)).2 fun i => ?_
    rw [Huff.mem_ordered, nats_length, hg]
    unfold usedTo
    simp only [List.mem_filter, List.mem_range, decide_eq_true_eq]
    have := hr i
    omega
  refine hp.eq_of_pairwise (le := Ahead zs) ?_ h.order ((Huff.ordered_lengths (nats zs) 16).imp ?_)
  · intro a b _ _ h1 h2
    unfold Ahead at h1 h2
    omega
  · intro a b hab
    rw [hg, hg] at hab
    unfold Ahead
    have := hr a
    have := hr b
    omega

/-- The next code, ahead of the shift. -/
theorem next_code {l os : List Nat} {nx ah s y : Nat} (h : nx * 2 ^ (16 - ah) = Huff.rooms l os) (hah : ah ≤ y) (hy : l.getD s 0 = y) (hy16 : y ≤ 16) :
    nx * 2 ^ (y - ah) = Huff.rooms l os / Huff.room l s ∧ (nx * 2 ^ (y - ah) + 1) * 2 ^ (16 - y) = Huff.rooms l (os ++ [s]) := by
  have hr : Huff.room l s = 2 ^ (16 - y) := by unfold Huff.room; rw [hy]
  have hp : nx * 2 ^ (y - ah) * 2 ^ (16 - y) = Huff.rooms l os := by
    rw [← h, Nat.mul_assoc, ← Nat.pow_add, show y - ah + (16 - y) = 16 - ah by omega]
  refine ⟨?_, ?_⟩
  · rw [hr, ← hp, Nat.mul_div_cancel _ (Nat.two_pow_pos _)]
  · rw [Huff.rooms_append, Nat.add_mul, Nat.one_mul, hp, Huff.rooms_cons, Huff.rooms_nil, hr, Nat.add_zero]
theorem le_rooms {nx ah r : Nat} (h : nx * 2 ^ (16 - ah) = r) (hr : r ≤ 65536) : nx ≤ 65536 := by
  have := Nat.le_mul_of_pos_right nx (Nat.two_pow_pos (16 - ah))
  omega
theorem rooms_take (l os : List Nat) (i : Nat) : Huff.rooms l (os.take i) ≤ Huff.rooms l os := by
  conv => rhs; rw [← List.take_append_drop i os, Huff.rooms_append]
  omega

/-- What is known of the symbols in their order. -/
structure CF (zs : List Int) (us l : List Nat) : Prop where
  mem : ∀ s ∈ us, s < zs.length ∧ 1 ≤ l.getD s 0 ∧ l.getD s 0 ≤ 16
  asc : us.Pairwise (fun s t => l.getD s 0 ≤ l.getD t 0)
  nodup : us.Nodup
  at' : ∀ s, s < zs.length → zs[s]? = some ((l.getD s 0 : Nat) : Int)
  len : us.length ≤ zs.length
  rooms : Huff.rooms l us ≤ 65536
  codes : ∀ j, j < zs.length → (codesZ zs)[j]? = some ((outOf l us j : Nat) : Int)
  below : ∀ j, outOf l us j ≤ 65536
theorem CF.of {zs : List Int} {us : List Nat} (hm : mayCode zs = true) (hr : Ranked zs us) : CF zs us (nats zs) := by
  obtain ⟨hle, hrm⟩ := may_rooms hm
  have hl : lensOk zs = true := by unfold mayCode at hm; rw [Bool.and_eq_true] at hm; exact hm.1
  have hu := ranked_ordered hl hr
  have hmem := fun s => Huff.mem_ordered (nats zs) 16 s
  have hasc := Huff.ordered_lengths (nats zs) 16
  have hnd := Huff.nodup_ordered (nats zs) 16
  have hcg := fun j => codesOf_get (nats zs) j
  have hcb := fun j => codesOf_le (nats zs) j hle hrm
  rw [← hu] at hmem hasc hnd hrm
  simp only [← hu] at hcg hcb
  clear hu
  have hlen := hr.perm.length_eq
  have hlen2 := usedTo_length zs zs.length
  refine ⟨fun s hs => ?_, hasc.imp (fun h => by omega), hnd, fun s hs => ?_, by omega, hrm, fun j hj => ?_, hcb⟩
  · have := (hmem s).1 hs
    rwa [nats_length] at this
  · rw [List.getElem?_eq_getElem hs]
    have h1 := lens_range hl s
    have h2 := nats_getD (zs := zs) s
    have h3 : zs.getD s 0 = zs[s] := by rw [List.getD_eq_getElem?_getD, List.getElem?_eq_getElem hs]; rfl
    rw [h2, h3, Int.toNat_of_nonneg (by rw [← h3]; exact h1.1)]
  · unfold codesZ
    have hjl : j < (codesOf (nats zs)).length := by rw [codesOf_length, nats_length]; exact hj
    have h1 := hcg j (by rw [nats_length]; exact hj)
    rw [List.getD_eq_getElem?_getD, List.getElem?_eq_getElem hjl] at h1
    simp only [Option.getD_some] at h1
    rw [List.getElem?_map, List.getElem?_eq_getElem hjl, Option.map_some, h1]

theorem succ_i64 (nc : Nat) (h : nc + 1 ≤ 65536) : wrap64 ((nc : Int) + 1) = ((nc + 1 : Nat) : Int) ∧ IntKind.i64.wrap ((nc : Int) + 1) = ((nc + 1 : Nat) : Int) := by
  rw [IntWalk.wrap64_in _ (by omega), wrap_i64 _ (by omega) (by omega)]
  exact ⟨rfl, rfl⟩
theorem shl_i64 {x d nc : Nat} (h : (x : Int) * 2 ^ d = (nc : Int)) (hn : nc + 1 ≤ 65536) : IntKind.i64.wrap ((x : Int) * 2 ^ d) = (nc : Int) ∧ wrap64 ((x : Int) * 2 ^ d) = (nc : Int) := by
  rw [h, IntWalk.wrap64_in _ (by omega), wrap_i64 _ (by omega) (by omega)]
  exact ⟨rfl, rfl⟩
/-- One more symbol's code. -/
structure CS (zs : List Int) (us l : List Nat) (i x y s ls d nc : Nat) : Prop where
  sym : us[i]? = some s
  lt : s < zs.length
  len : zs[s]? = some (ls : Int)
  le : ls ≤ 16
  d16 : d ≤ 16
  sub : (ls : Int) - (y : Int) = (d : Int)
  shl : (x : Int) * 2 ^ d = (nc : Int)
  nc16 : nc + 1 ≤ 65536
  rooms : (nc + 1) * 2 ^ (16 - ls) = Huff.rooms l (us.take (i + 1))
  asc : ∀ t ∈ us.drop (i + 1), ls ≤ l.getD t 0
  out : ∀ j, outOf l (us.take (i + 1)) j = if j = s then nc else outOf l (us.take i) j
theorem CF.step {zs : List Int} {us l : List Nat} (h : CF zs us l) {i x y : Nat} (hlt : i < us.length) (hx : x * 2 ^ (16 - y) = Huff.rooms l (us.take i)) (hdrop : ∀ s ∈ us.drop i, y ≤ l.getD s 0) :
    ∃ s ls d nc, CS zs us l i x y s ls d nc := by
  have hus : us[i]? = some us[i] := List.getElem?_eq_getElem hlt
  have hdc : us.drop i = us[i] :: us.drop (i + 1) := List.drop_eq_getElem_cons hlt
  have htk : us.take (i + 1) = us.take i ++ [us[i]] := take_more hus
  have hyl : y ≤ l.getD us[i] 0 := hdrop _ (by rw [hdc]; exact List.mem_cons_self)
  have hpw : ∀ t ∈ us.drop (i + 1), l.getD us[i] 0 ≤ l.getD t 0 := by
    have h1 : (us.drop i).Pairwise (fun s t => l.getD s 0 ≤ l.getD t 0) := h.asc.sublist (List.drop_sublist i us)
    rw [hdc, List.pairwise_cons] at h1
    exact h1.1
  have hsn : us[i] ∉ us.take i := fun hmem => by
    have h1 := h.nodup
    rw [← List.take_append_drop i us, hdc] at h1
    exact (List.nodup_append.1 h1).2.2 _ hmem _ List.mem_cons_self rfl
  obtain ⟨hs1, hs2, hs3⟩ := h.mem us[i] (List.getElem_mem hlt)
  have hzs := h.at' us[i] hs1
  obtain ⟨q1, q2⟩ := next_code hx hyl rfl hs3
  have hr : Huff.rooms l (us.take (i + 1)) ≤ 65536 := Nat.le_trans (rooms_take l us _) h.rooms
  rw [← htk] at q2
  have hnc2 := le_rooms q2 hr
  have hout : ∀ j, outOf l (us.take (i + 1)) j = if j = us[i] then x * 2 ^ (l.getD us[i] 0 - y) else outOf l (us.take i) j := fun j => by
    rw [htk, outOf_snoc l _ us[i] j hsn, q1]
  clear h hdrop hx q1 hr hsn htk hdc hs2
  generalize us[i] = s at *
  generalize hls : l.getD s 0 = ls at *
  obtain ⟨d, hd⟩ : ∃ d, d = ls - y := ⟨_, rfl⟩
  rw [← hd] at hnc2 hout q2
  obtain ⟨nc, hnc⟩ : ∃ nc, nc = x * 2 ^ d := ⟨_, rfl⟩
  rw [← hnc] at hnc2 q2
  simp only [← hnc] at hout
  refine ⟨s, ls, d, nc, hus, hs1, hzs, hs3, ?_, ?_, ?_, hnc2, q2, hpw, hout⟩
  · clear hout q2 hnc hnc2; omega
  · clear hout q2 hnc hnc2; omega
  · rw [hnc]; simp

set_option maxRecDepth 100000 in
set_option maxHeartbeats 1600000 in
theorem codes_says : CodesSays := by
  intro w a n c zs h hn
  have C0 := weight_says w a n c zs h hn
  have HD := Lib.hid (Below.refl w.heap.size w)
  unfold CodesSay
  cases hm : mayCode zs
  · simp only [Bool.false_eq_true, if_false]
    have hwx : lensOk zs = true → 65536 < weightZ zs := by
      intro hl
      unfold mayCode at hm
      rw [hl, Bool.true_and] at hm
      simp only [decide_eq_false_iff_not] at hm
      omega
    generalize weightZ zs = x at *
    generalize lensOk zs = y at *
    have C := Lib.hid C0
    clear C0
    have HX := Lib.hid hwx
    clear h hm hwx
    go_enter Tryd.func62, Tryd.ntmps62
    go_wp2_with fail
    refine C.out.mono ?_
    rintro e w1 ⟨rfl, hb⟩
    have HB := Lib.hid hb
    clear hb
    cases y
    · go_wp2_with fail
      go_ret2
      exact ⟨none, 0, rfl, HB.out⟩
    · have u : decide ((65536 : Int) < (x : Int)) = true := by have := HX.out rfl; simp; omega
      go_wp2_with fail
      go_ret2
      exact ⟨none, 0, rfl, HB.out⟩
  · simp only [if_true]
    have hl : lensOk zs = true := by unfold mayCode at hm; rw [Bool.and_eq_true] at hm; exact hm.1
    have hx : weightZ zs ≤ 65536 := by unfold mayCode at hm; rw [Bool.and_eq_true, decide_eq_true_eq] at hm; exact hm.2
    rw [hl] at C0
    generalize weightZ zs = x at *
    have u : decide ((65536 : Int) < (x : Int)) = false := by simp; omega
    have hmk := run_make_row' (P := Tryd.prog) 35 3 (.int .i64 0) 8 Tryd.underlying35 info3 rfl .i64 .i64 n (by omega) (by omega)
    have C := Lib.hid C0
    clear C0
    have HZ := Lib.hid h
    have HF := Lib.hid (And.intro hl hm)
    clear h hm hl hx
    go_enter Tryd.func62, Tryd.ntmps62
    go_wp2_with fail
    refine C.out.mono ?_
    rintro e w1 ⟨rfl, hb⟩
    have HB := Lib.hid hb
    have CR := Lib.hid (ranked_any (w1.alloc (.cells (madeCells #[.int .i64 0] n) 3)) a n c zs ((HZ.out.below hb).later (fun k hk => Below.heap_alloc _ _ _ hk)) hn)
    clear hb
    go_wp2_with fail
    refine CR.out.mono ?_
    rintro e w2 ⟨ar, cap, us, rfl, _, hr, hi, hfr, hb2⟩
    have cf := CF.of HF.out.2 hr
    have hgsz : (w1.alloc (.cells (madeCells #[.int .i64 0] n) 3)).heap.size = w1.heap.size + 1 := Array.size_push _
    have hrow0 : Row w2 w1.heap.size n (fun j => (outOf (nats zs) [] j : Nat)) :=
      (made_row w1 n).later (hb2.block _ (by rw [hgsz]; exact Nat.lt_succ_self _))
    have hbw : Below w.heap.size w w2 := below_more (HB.out.alloc HB.out.size _) hb2 (Nat.le_refl _)
    have hne : ∀ x, ar = some x → x.block ≠ w1.heap.size := fun x hx e => by have := hfr x hx; omega
    have hgw : w1.heap.size < w2.heap.size := by have := hb2.size; omega
    have hln : zs.length = n := HZ.out.1
    have hul : us.length ≤ 16777216 := by have := cf.len; omega
    generalize nats zs = l at *
    subst hln
    have CFH := Lib.hid cf
    have HI := Lib.hid (And.intro hi (And.intro hne hbw))
    clear cf hi hne hr hfr hb2 CR
    clear hmk hgsz HD HF u
    go_wp2_with fail
    go_loopw [7, 8, 28] (fun nx ah cnt wr => ∃ i x y : Nat, i ≤ us.length ∧ cnt = .int .i64 i ∧ nx = .int .i64 x ∧ ah = .int .i64 y ∧ y ≤ 16 ∧ x * 2 ^ (16 - y) = Huff.rooms l (us.take i) ∧ (∀ s ∈ us.drop i, y ≤ l.getD s 0) ∧ Row wr w1.heap.size zs.length (fun j => (outOf l (us.take i) j : Nat)) ∧ (∀ k, k ≠ w1.heap.size → wr.heap[k]? = w2.heap[k]?) ∧ Below w.heap.size w wr) (fun _ _ cnt _ => us.length - (intOf cnt).toNat)
    case atStart => exact ⟨0, 0, 0, Nat.zero_le _, rfl, rfl, rfl, by omega, by simp [Huff.rooms_nil], fun _ _ => Nat.zero_le _, hrow0, fun _ _ => rfl, HI.out.2.2⟩
    case round =>
      clear hrow0
      obtain ⟨i, x, y, hi, rfl, rfl, rfl, hy16, hx, hdrop, hrow, hbut, hbel⟩ := hrel
      by_cases hlt : i < us.length
      · obtain ⟨s, ls, d, nc, cs⟩ := CFH.out.step hlt hx hdrop
        have hnc2 := cs.nc16
        have hs1 := cs.lt
        have hzs := cs.len
        have hls16 := cs.le
        have hw0 := cs.shl
        obtain ⟨b1, off1, s1, rfl, hz1, _, hc1⟩ := HI.out.1.at hlt
        have es1 : s1 = (s : Int) := by
          unfold natZ at hz1
          rw [List.getElem?_map, cs.sym] at hz1
          cases hz1; rfl
        subst es1
        have hne1 : b1 ≠ w1.heap.size := HI.out.2.1 _ rfl
        have hc1' : wr.cell? ⟨b1, off1 + i, none⟩ = some (.int .i64 (s : Nat)) := (World.cell?_of_block (w := w2) (hbut b1 hne1)).trans hc1
        obtain ⟨b, off, z, rfl, hz, _, hcz0⟩ := (HZ.out.below hbel).at hs1
        rw [hzs] at hz
        cases hz
        have hbg : b < w.heap.size := by
          obtain ⟨b', off', z', e, _, _, hcl⟩ := HZ.out.at hs1
          cases e
          exact World.block_lt_of_cell? w (⟨b, off + s, none⟩ : Addr) hcl
        have hwg : w.heap.size ≤ w1.heap.size := HB.out.size
        obtain ⟨old, hold, hfr2⟩ : ∃ old : Int, wr.cell? ⟨w1.heap.size, s, none⟩ = some (.int .i64 old) ∧ wr.frozen? ⟨w1.heap.size, s, none⟩ = false := ⟨_, hrow.cell hs1⟩
        have X := Lib.hid (show Row (wr.setCell ⟨w1.heap.size, s, none⟩ (.int .i64 nc)) w1.heap.size zs.length (fun j => (outOf l (us.take (i + 1)) j : Nat)) ∧ (∀ k, k ≠ w1.heap.size → (wr.setCell ⟨w1.heap.size, s, none⟩ (.int .i64 nc)).heap[k]? = w2.heap[k]?) ∧ Below w.heap.size w (wr.setCell ⟨w1.heap.size, s, none⟩ (.int .i64 nc)) from by
          refine ⟨?_, fun k hk => (Below.heap_setCell _ _ _ _ (by simpa using hk)).trans (hbut k hk), below_set hbel hwg _⟩
          refine hrow.set hs1 (fun j hj => ?_)
          rw [cs.out]
          split <;> rfl)
        have hneb : b ≠ w1.heap.size := by omega
        have hcz2 : (wr.setCell ⟨w1.heap.size, s, none⟩ (.int .i64 nc)).cell? ⟨b, off + s, none⟩ = some (.int .i64 (ls : Nat)) :=
          (World.cell?_of_block (w := wr) (Below.heap_setCell _ _ _ _ (by simpa using hneb))).trans hcz0
        have hdi := cs.sub
        have hdl := cs.d16
        have CSH := Lib.hid cs
        clear cs hx hdrop hrow hbut hbel hz1 hc1 hzs
        have hd0 : (0 : Int) ≤ (d : Int) := by omega
        have hd64 : (d : Int) ≤ 64 := by omega
        obtain ⟨hw2, hw3⟩ := shl_i64 hw0 hnc2
        obtain ⟨hn1, hn2⟩ := succ_i64 nc hnc2
        clear hw0
        go_wp2
        go_roundw
        case rel => exact ⟨i + 1, nc + 1, ls, hlt, by go_num, rfl, rfl, CSH.out.le, CSH.out.rooms, CSH.out.asc, X.out.1, X.out.2.1, X.out.2.2⟩
        case measure => simp [intOf]; omega
      · obtain rfl : i = us.length := by omega
        rw [List.take_length] at hrow
        have hfin : Ints wr (some ⟨w1.heap.size, 0, none⟩) zs.length (codesZ zs) := hrow.ints (codesZ_length zs) (fun z hz => by
          obtain ⟨j, hj⟩ := List.mem_iff_getElem?.1 hz
          have hjn : j < zs.length := by have := (List.getElem?_eq_some_iff.1 hj).1; rw [codesZ_length] at this; exact this
          rw [CFH.out.codes j hjn] at hj
          cases hj
          have := CFH.out.below j
          omega) (fun j hj => CFH.out.codes j hj)
        have HFIN := Lib.hid (And.intro hfin hbel)
        clear hrow hbut hbel hdrop hx hfin
        go_wp2
        go_ret2
        exact ⟨_, _, rfl, HFIN.out.1, Nat.le_refl _, HFIN.out.2⟩
end Go.Proofs.YtpmoknnhgginjaaDoor.Hu

/- The walk of pairs. -/
namespace Go.Proofs.YtpmoknnhgginjaaDoor.Hu
open Go.RowKit
set_option linter.unusedVariables false

theorem pairs_get (l : List Nat) (i : Nat) (h : i < l.length / 2) : (Huff.pairs l)[i]? = some (l.getD (2 * i) 0 + l.getD (2 * i + 1) 0) := by
  match l, i with
  | [], i => simp at h
  | [_], i => simp at h
  | a :: b :: l, 0 => simp [Huff.pairs]
  | a :: b :: l, i + 1 =>
    have ih := pairs_get l i (by simp only [List.length_cons] at h; omega)
    rw [Huff.pairs, List.getElem?_cons_succ, ih, show 2 * (i + 1) = 2 * i + 1 + 1 by omega, List.getD_cons_succ, List.getD_cons_succ, show 2 * i + 1 + 1 + 1 = (2 * i + 1) + 1 + 1 by omega, List.getD_cons_succ, List.getD_cons_succ]
theorem natZ_get {us : List Nat} {i : Nat} (h : i < us.length) : (natZ us)[i]? = some ((us.getD i 0 : Nat) : Int) := by
  unfold natZ
  rw [List.getElem?_map, List.getElem?_eq_getElem h, List.getD_eq_getElem?_getD, List.getElem?_eq_getElem h]; rfl
theorem getD_le {us : List Nat} {B : Nat} (h : ∀ u ∈ us, u ≤ B) (i : Nat) : us.getD i 0 ≤ B := by
  rw [List.getD_eq_getElem?_getD]
  cases hu : us[i]? with
  | none => simp
  | some u => exact h u (List.mem_of_getElem? hu)
theorem natZ_le {us : List Nat} (h : ∀ u ∈ us, u ≤ 9223372036854775807) : ∀ z ∈ natZ us, -9223372036854775808 ≤ z ∧ z ≤ 9223372036854775807 := by
  intro z hz
  simp only [natZ, List.mem_map] at hz
  obtain ⟨u, hu, rfl⟩ := hz
  have := h u hu
  omega
theorem pairs_le {l : List Nat} {B : Nat} (h : ∀ u ∈ l, u ≤ B) : ∀ u ∈ Huff.pairs l, u ≤ 2 * B := by
  intro u hu
  obtain ⟨i, hi⟩ := List.mem_iff_getElem?.1 hu
  have hl := (List.getElem?_eq_some_iff.1 hi).1
  rw [Huff.pairs_length] at hl
  rw [pairs_get l i hl] at hi
  cases hi
  have := getD_le h (2 * i)
  have := getD_le h (2 * i + 1)
  omega

end Go.Proofs.YtpmoknnhgginjaaDoor.Hu

/- A struct of two rows of the call's own, each grown by one number. -/
namespace Go.Proofs.YtpmoknnhgginjaaDoor.Hu
open Go.RowKit
set_option linter.unusedVariables false

theorem block_set {w : World} {R i : Nat} {c : Array Value} {t : TypeId} {f : Nat × Nat} (h : w.heap[R]? = some (.cells c t f)) (u : Value) :
    (w.setCell ⟨R, i, none⟩ u).heap[R]? = some (.cells (c.setIfInBounds i u) t f) := by
  simp [World.setCell, h, Array.getElem?_modify]
theorem lt_of_block {w : World} {k : Nat} {o : Obj} (h : w.heap[k]? = some o) : k < w.heap.size := by
  rcases Nat.lt_or_ge k w.heap.size with hlt | hge
  · exact hlt
  · rw [Array.getElem?_eq_none hge] at h; cases h

theorem below_join {B : Nat} {w w1 w2 : World} (h : Below B w w1) (h2 : Below w1.heap.size w1 w2) (hB : B ≤ w.heap.size) : Below B w w2 :=
  h.trans ⟨h2.os, h2.tape, h2.output, h2.size, fun k hk => h2.block k (Nat.lt_of_lt_of_le hk (Nat.le_trans hB h.size))⟩
end Go.Proofs.YtpmoknnhgginjaaDoor.Hu

/- A decoder in memory: a struct that leads to its ways; the contract of Step. -/
namespace Go.Proofs.YtpmoknnhgginjaaDoor.Hu
open Go.RowKit
set_option linter.unusedVariables false

theorem ofInt_i64 (a : Nat) (ha : a < 9223372036854775808) : (BitVec.ofInt 64 (a : Int)).toNat = a := by
  rw [BitVec.toNat_ofInt]
  omega
theorem i64_and_nat (a b : Nat) (ha : a < 9223372036854775808) (hb : b < 9223372036854775808) : bits .and .i64 (a : Int) (b : Int) = ((a &&& b : Nat) : Int) := by
  have hx : a &&& b < 2 ^ 63 := Nat.and_lt_two_pow _ (by omega)
  show IntKind.i64.wrap ((BitVec.ofInt 64 (a : Int) &&& BitVec.ofInt 64 (b : Int)).toNat : Int) = _
  rw [BitVec.toNat_and, ofInt_i64 a ha, ofInt_i64 b hb, wrap_i64 _ (by omega) (by omega)]
theorem i64_odd (a : Nat) (ha : a < 9223372036854775808) : bits .and .i64 (a : Int) 1 = ((a % 2 : Nat) : Int) := by
  have := i64_and_nat a 1 ha (by omega)
  rw [Nat.and_one_is_mod] at this
  exact this

theorem i64_not (z : Int) (hz : -16777217 ≤ z ∧ z ≤ 16777217) : bits .xor .i64 (-1) z = -z - 1 := by
  show IntKind.i64.wrap ((BitVec.ofInt 64 (-1) ^^^ BitVec.ofInt 64 z).toNat : Int) = _
  rw [show BitVec.ofInt 64 (-1) = BitVec.allOnes 64 from by decide, BitVec.allOnes_xor, BitVec.toNat_not, BitVec.toNat_ofInt]
  simp only [IntKind.wrap, IntKind.bits, IntKind.signed]
  simp
  omega

/-- The ways of a decoder, as they lie: two for each state. -/
def wayOf (cs : List Int) (st b : Nat) : Int := cs.getD (st * 2 + b) 0
/-- A decoder in memory. -/
structure Dec (w : World) (B D : Nat) (v : Value) (m : Nat) (cs : List Int) : Prop where
  at_ : B ≤ D
  blk : w.heap[D]? = some (.cells #[v] 91 (0, 0))
  own : w.ownsRow B 92 2 v m (vals cs)
  apart : v.ownBlock ≠ some D
theorem own_lt2 {w : World} {B n e k : Nat} {v : Value} {xs : List Value} (h : w.ownsRow B e k v n xs) : ∀ g, v.ownBlock = some g → B ≤ g ∧ g < w.heap.size := by
  intro g hg
  rcases h.2 with ⟨rfl, _⟩ | ⟨g, cap, cur, rfl, hb, hh, _⟩
  · cases hg
  · cases hg
    exact ⟨hb, lt_of_block hh⟩
theorem own_kept2 {w w' : World} {B n e k : Nat} {v : Value} {xs : List Value} (h : w.ownsRow B e k v n xs) (hk : ∀ g, v.ownBlock = some g → w'.heap[g]? = w.heap[g]?) : w'.ownsRow B e k v n xs := by
  obtain ⟨h1, h2⟩ := h
  refine ⟨h1, ?_⟩
  rcases h2 with h2 | ⟨g, cap, cur, rfl, hg, hh, r⟩
  · exact Or.inl h2
  · exact Or.inr ⟨g, cap, cur, rfl, hg, (hk g rfl).trans hh, r⟩
theorem Dec.lt {w : World} {B D m : Nat} {v : Value} {cs : List Int} (h : Dec w B D v m cs) : D < w.heap.size := lt_of_block h.blk
theorem Dec.later {w w' : World} {B D m : Nat} {v : Value} {cs : List Int} (h : Dec w B D v m cs) (hk : ∀ k, k < w.heap.size → w'.heap[k]? = w.heap[k]?) : Dec w' B D v m cs :=
  ⟨h.at_, (hk D h.lt).trans h.blk, own_kept2 h.own (fun g e => hk g (own_lt2 h.own g e).2), h.apart⟩
theorem Dec.length {w : World} {B D m : Nat} {v : Value} {cs : List Int} (h : Dec w B D v m cs) : cs.length = m * 2 := by
  have := h.own.1
  rwa [vals_length] at this
/-- What a walk reads of one. -/
theorem Dec.open {w : World} {B D m : Nat} {v : Value} {cs : List Int} (h : Dec w B D v m cs) (hm : 0 < m) : ∃ g cap, v = .slice (some ⟨g, 0, none⟩) m cap ∧ B ≤ g ∧ g ≠ D ∧ g < w.heap.size ∧ m ≤ cap ∧
    w.cell? ⟨D, 0, none⟩ = some (.slice (some ⟨g, 0, none⟩) m cap) ∧ w.frozen? ⟨D, 0, none⟩ = false ∧
    ∀ st b, st < m → b < 2 → w.cell? ⟨g, st * 2 + b, none⟩ = some (.int .i64 (wayOf cs st b)) ∧ w.frozen? ⟨g, st * 2 + b, none⟩ = false := by
  have hb := h.blk
  have hl := h.length
  have ha := h.apart
  obtain ⟨-, h2⟩ := h.own
  rcases h2 with ⟨_, e2⟩ | ⟨g, cap, cur, rfl, hB, hh, p1, p2, p3, p4⟩
  · omega
  · refine ⟨g, cap, rfl, hB, fun e => ha (by rw [e]; rfl), lt_of_block hh, p1, by simp [World.cell?, hb], by simp [World.frozen?, hb], fun st b hs hb2 => ?_⟩
    have hi : st * 2 + b < m * 2 := by omega
    have hj : (vals cs)[st * 2 + b]? = (cur.toList.take (m * 2))[st * 2 + b]? := by rw [p4]
    unfold vals at hj
    rw [List.getElem?_take_of_lt hi, List.getElem?_map, List.getElem?_eq_getElem (by omega)] at hj
    have hj3 : cur[st * 2 + b]? = some (.int .i64 (wayOf cs st b)) := by
      unfold wayOf
      rw [List.getD_eq_getElem?_getD, List.getElem?_eq_getElem (by omega)]
      simpa using hj.symm
    exact ⟨by simp [World.cell?, hh, hj3], by simp [World.frozen?, hh]⟩
/-- One way set. -/
theorem Dec.set {w : World} {B D m g cap : Nat} {cs : List Int} (h : Dec w B D (.slice (some ⟨g, 0, none⟩) m cap) m cs) {st b : Nat} (hs : st < m) (hb : b < 2) (z : Int) :
    Dec (w.setCell ⟨g, st * 2 + b, none⟩ (.int .i64 z)) B D (.slice (some ⟨g, 0, none⟩) m cap) m (cs.set (st * 2 + b) z) := by
  have hne : D ≠ g := fun e => h.apart (by rw [e]; rfl)
  refine ⟨h.at_, (Below.heap_setCell _ _ _ _ (by simpa using hne)).trans h.blk, ?_, h.apart⟩
  obtain ⟨h1, h2⟩ := h.own
  refine ⟨by rw [vals_length, List.length_set]; rw [vals_length] at h1; exact h1, ?_⟩
  rcases h2 with ⟨e, _⟩ | ⟨g', cap', cur, e, hB, hh, p1, p2, p3, p4⟩
  · cases e
  · cases e
    refine Or.inr ⟨g, cap, _, rfl, hB, block_set hh _, p1, p2, by simpa using p3, ?_⟩
    rw [show (cur.setIfInBounds (st * 2 + b) (.int .i64 z)).toList = cur.toList.set (st * 2 + b) (.int .i64 z) by simp, List.take_set, p4]
    unfold vals
    rw [List.map_set]
theorem wayOf_set (cs : List Int) (st b st' b' : Nat) (z : Int) (hb : b < 2) (hb' : b' < 2) (hl : st * 2 + b < cs.length) : wayOf (cs.set (st * 2 + b) z) st' b' = if st' = st ∧ b' = b then z else wayOf cs st' b' := by
  unfold wayOf
  rw [List.getD_eq_getElem?_getD, List.getD_eq_getElem?_getD]
  by_cases h : st' = st ∧ b' = b
  · rw [if_pos h, h.1, h.2, List.getElem?_set_self hl]; rfl
  · rw [if_neg h, List.getElem?_set_ne (by omega)]
theorem wayOf_more (cs : List Int) (m st b : Nat) (hl : cs.length = m * 2) (hb : b < 2) : wayOf (cs ++ [0, 0]) st b = if st = m then 0 else wayOf cs st b := by
  unfold wayOf
  rw [List.getD_eq_getElem?_getD, List.getD_eq_getElem?_getD]
  by_cases h : st = m
  · rw [if_pos h, List.getElem?_append_right (by omega), show st * 2 + b - cs.length = b by omega]
    match b, hb with
    | 0, _ => rfl
    | 1, _ => rfl
  · rw [if_neg h]
    rcases Nat.lt_or_ge (st * 2 + b) cs.length with h1 | h1
    · rw [List.getElem?_append_left h1]
    · rw [List.getElem?_eq_none h1, List.getElem?_eq_none (by rw [List.length_append]; simp only [List.length_cons, List.length_nil]; omega)]

/-- What Step answers. -/
def stepOf (m : Nat) (cs : List Int) (st : Int) (b : Nat) : Int × Int :=
  if 0 ≤ st ∧ st < m then (if wayOf cs st.toNat b = 0 then (-1, -1) else if wayOf cs st.toNat b < 0 then (0, -(wayOf cs st.toNat b) - 1) else (wayOf cs st.toNat b, -1)) else (-1, -1)

set_option maxRecDepth 100000 in
set_option maxHeartbeats 1600000 in
theorem step_any (w : World) (B D m : Nat) (v : Value) (cs : List Int) (h : Dec w B D v m cs) (hm : 0 < m) (hm2 : m ≤ 16777216) (hc : ∀ z ∈ cs, -16777216 ≤ z ∧ z ≤ 16777216) (st bit : Int) (b : Nat) (hb : b < 2) (hbit : bits .and .i64 bit 1 = (b : Int)) :
    Calls Tryd.prog 53 #[.pointer (some ⟨D, 0, none⟩), .int .i64 st, .int .i64 bit] w fun e w' => e = .returned (.tuple #[.int .i64 (stepOf m cs st b).1, .int .i64 (stepOf m cs st b).2]) ∧ w' = w := by
  obtain ⟨g, cap, rfl, hB, hgD, hgl, hmc, c0, f0, hcell⟩ := h.open hm
  by_cases hin : 0 ≤ st ∧ st < m
  · obtain ⟨s, rfl⟩ := Int.eq_ofNat_of_zero_le hin.1
    have hs : s < m := by omega
    have e : stepOf m cs (s : Int) b = if wayOf cs s b = 0 then (-1, -1) else if wayOf cs s b < 0 then (0, -(wayOf cs s b) - 1) else (wayOf cs s b, -1) := by
      unfold stepOf
      rw [if_pos hin, Int.toNat_natCast]
    obtain ⟨hcw, -⟩ := hcell s b hs hb
    have hwb : -16777216 ≤ wayOf cs s b ∧ wayOf cs s b ≤ 16777216 := by
      unfold wayOf
      rw [List.getD_eq_getElem?_getD]
      cases hz : cs[s * 2 + b]? with
      | none => simp
      | some z => exact hc z (List.mem_of_getElem? hz)
    rw [e]
    generalize wayOf cs s b = z at *
    have u0 : decide ((s : Int) < 0) = false := by simp
    have u1 : decide ((m : Int) ≤ (s : Int)) = false := decide_eq_false (by omega)
    clear hcell hc h e hin
    by_cases h0 : z = 0
    · subst h0
      rw [if_pos rfl]
      go_enter Tryd.func53, Tryd.ntmps53
      go_wp2
      go_ret2
      exact ⟨rfl, rfl⟩
    · rw [if_neg h0]
      have v0 : decide (z = 0) = false := decide_eq_false h0
      have v1 : (z == 0) = false := by simpa using h0
      by_cases hn : z < 0
      · rw [if_pos hn]
        have v2 : decide (z < 0) = true := decide_eq_true hn
        go_enter Tryd.func53, Tryd.ntmps53
        go_wp2
        go_ret2
        exact ⟨by rw [← i64_not z (by omega)]; rfl, rfl⟩
      · rw [if_neg hn]
        have v2 : decide (z < 0) = false := decide_eq_false hn
        go_enter Tryd.func53, Tryd.ntmps53
        go_wp2
        go_ret2
        exact ⟨rfl, rfl⟩
  · have e : stepOf m cs st b = (-1, -1) := by unfold stepOf; rw [if_neg hin]
    rw [e]
    clear hcell hc h e
    by_cases h0 : st < 0
    · have u0 : decide (st < 0) = true := decide_eq_true h0
      clear hin
      go_enter Tryd.func53, Tryd.ntmps53
      go_wp2
      go_ret2
      exact ⟨rfl, rfl⟩
    · have u0 : decide (st < 0) = false := decide_eq_false h0
      have u1 : decide ((m : Int) ≤ st) = true := decide_eq_true (by omega)
      clear hin
      go_enter Tryd.func53, Tryd.ntmps53
      go_wp2
      go_ret2
      exact ⟨rfl, rfl⟩
end Go.Proofs.YtpmoknnhgginjaaDoor.Hu

/- The walk of merged. -/
namespace Go.Proofs.YtpmoknnhgginjaaDoor.Hu
open Go.RowKit
set_option linter.unusedVariables false

def cntsTo (ps qs : List Nat) (t : Nat) : List Nat := (List.range (t + 1)).map (Huff.cnt ps qs)
theorem cntsTo_succ (ps qs : List Nat) (t : Nat) : cntsTo ps qs (t + 1) = cntsTo ps qs t ++ [Huff.cnt ps qs (t + 1)] := by
  unfold cntsTo; rw [List.range_succ, List.map_append]; rfl
theorem cntsTo_length (ps qs : List Nat) (t : Nat) : (cntsTo ps qs t).length = t + 1 := by simp [cntsTo]

theorem own_form {w : World} {B n : Nat} {v : Value} {xs : List Value} (h : w.ownsRow B 3 1 v n xs) : ∃ aa cap, v = .slice aa n cap := by
  rcases h.2 with ⟨e, e2⟩ | ⟨g, cap, _, e, _⟩
  · exact ⟨none, 0, by rw [e, e2]⟩
  · exact ⟨_, _, e⟩
theorem own_ints2 {w w' : World} {B n c : Nat} {aa : Option Addr} {us : List Nat} (h : w.ownsRow B 3 1 (.slice aa n c) n (vals (natZ us))) (hk : ∀ k, B ≤ k → w'.heap[k]? = w.heap[k]?) (hb : ∀ u ∈ us, u ≤ 9223372036854775807) : Ints w' aa n (natZ us) ∧ ∀ x, aa = some x → B ≤ x.block := by
  refine ⟨(own_ints (own_kept h (fun k e => hk k (own_lt h k e).1)) (natZ_le hb)).1, fun x hx => (own_lt h x.block (by rw [hx]; rfl)).1⟩
theorem mix_le {ps qs : List Nat} {B : Nat} (hp : ∀ p ∈ ps, p ≤ B) (hq : ∀ p ∈ qs, p ≤ B) : ∀ p ∈ Huff.mix id ps qs, p ≤ B := by
  intro p h
  have := (Huff.mix_perm id ps qs).subset h
  rcases List.mem_append.1 this with h1 | h1
  · exact hp p h1
  · exact hq p h1
theorem cnts_le (ps qs : List Nat) (t : Nat) (ht : t ≤ ps.length + qs.length) : ∀ p ∈ cntsTo ps qs t, p ≤ ps.length := by
  intro p h
  simp only [cntsTo, List.mem_map, List.mem_range] at h
  obtain ⟨u, hu, rfl⟩ := h
  have := (Huff.mix_parts id ps qs u (by omega)).1
  simpa using this
def MergeSay (w : World) (ps qs : List Nat) (e : Ending) (w' : World) : Prop :=
  ∃ ax cx ay cy, e = .returned (.agg #[.slice ax (ps.length + qs.length) cx, .slice ay (ps.length + qs.length + 1) cy]) ∧
    Ints w' ax (ps.length + qs.length) (natZ (Huff.mix id ps qs)) ∧ Ints w' ay (ps.length + qs.length + 1) (natZ (cntsTo ps qs (ps.length + qs.length))) ∧
    (∀ x, ax = some x → w.heap.size ≤ x.block) ∧ (∀ x, ay = some x → w.heap.size ≤ x.block) ∧ Below w.heap.size w w'

end Go.Proofs.YtpmoknnhgginjaaDoor.Hu

/- The walk of lay. -/
namespace Go.Proofs.YtpmoknnhgginjaaDoor.Hu
open Go.RowKit
set_option linter.unusedVariables false

theorem info50 : (Tryd.prog.info? 92).map (fun i => (i.zero, i.size, i.bytes)) = some (some (.agg #[.int .i64 0, .int .i64 0]), 2, 16) := by kernel_rfl
theorem run_append_pair (w : World) (ty : TypeId) (base n : Nat) (v : Value) (cs : List Int) (hown : w.ownsRow base 92 2 v n (vals cs)) (g c : Nat) (h0 : w.cell? ⟨g, 0, none⟩ = some (.int .i64 0)) (h1 : w.cell? ⟨g, 1, none⟩ = some (.int .i64 0)) (hn : n ≤ 33554432) (hbase : base ≤ w.heap.size) :
    ∃ aa cap w', (Builtin.append_ #[89, 89] ty #[v, .slice (some ⟨g, 0, none⟩) 1 c]).run Tryd.prog w = .ok (.slice aa (n + 1) cap) w' ∧
      w'.ownsRow base 92 2 (.slice aa (n + 1) cap) (n + 1) (vals (cs ++ [0, 0])) ∧ w.grownBy w' v.ownBlock ∧ ((Value.slice aa (n + 1) cap).ownBlock = v.ownBlock ∨ (Value.slice aa (n + 1) cap).ownBlock = some w.heap.size) := by
  obtain ⟨i0, hi, hz0, hz1, hz2⟩ := info_parts info50
  obtain ⟨v', w', hr, k1, k2, k4, k5⟩ := run_append_own_at (P := Tryd.prog) w base 89 ty 92 i0 (.agg #[.int .i64 0, .int .i64 0]) 2 16 Tryd.underlying89 hi hz0 hz1 hz2 rfl (by decide) v n _ hown ⟨g, 0, none⟩ 1 c [.int .i64 0, .int .i64 0] rfl
    (by
      intro j u hj
      rw [add_spot]
      match j, hj with
      | 0, hj => cases hj; exact h0
      | 1, hj => cases hj; exact h1
      | j + 2, hj => simp at hj)
    (by intro u hu; simp only [List.mem_cons, List.not_mem_nil, or_false, or_self] at hu; subst hu; rfl) (by unfold maxLen; omega) (by omega) hbase
  have hv : ∃ aa cap, v' = .slice aa (n + 1) cap := by
    rcases k1.2 with ⟨e, e2⟩ | ⟨g, cap, _, e, _⟩
    · omega
    · exact ⟨_, _, e⟩
  obtain ⟨aa, cap, rfl⟩ := hv
  have e : vals cs ++ [.int .i64 0, .int .i64 0] = vals (cs ++ [0, 0]) := by simp [vals]
  rw [e] at k1
  exact ⟨aa, cap, w', hr, k1, k2, k5⟩
theorem wpList_append_pair {w : World} {ops : Array Oper} {rest : List Oper} {o : Oper} {a : Act} {Q : Exit → Act → World → Prop} (hgd : o.guard = none) (s x : Operand) (ho : o.op = .call { callee := .builtin .append, args := #[s, x], argTypes := #[89, 89] })
    (base n : Nat) (v : Value) (cs : List Int) (hs : a.eval s = v) (hown : w.ownsRow base 92 2 v n (vals cs)) (g c : Nat) (hx : a.eval x = .slice (some ⟨g, 0, none⟩) 1 c) (h0 : w.cell? ⟨g, 0, none⟩ = some (.int .i64 0)) (h1 : w.cell? ⟨g, 1, none⟩ = some (.int .i64 0)) (hn : n ≤ 33554432) (hbase : base ≤ w.heap.size)
    (h : ∀ aa cap w', w'.ownsRow base 92 2 (.slice aa (n + 1) cap) (n + 1) (vals (cs ++ [0, 0])) → w.grownBy w' v.ownBlock → ((Value.slice aa (n + 1) cap).ownBlock = v.ownBlock ∨ (Value.slice aa (n + 1) cap).ownBlock = some w.heap.size) → wpList Tryd.prog ops Q rest (a.put o.dst (.slice aa (n + 1) cap)) w') :
    wpList Tryd.prog ops Q (o :: rest) a w := by
  refine wpList_plain hgd fun K hK => ?_
  obtain ⟨aa, cap, w', hr, k1, k2, k3⟩ := run_append_pair w o.type base n v cs hown g c h0 h1 hn hbase
  unfold Oper.wp execOp
  simp only [ho, resolve, invoke, builtin, Sem.run_bind, Sem.run_pure, Result.andThen_ok, List.map_toArray, List.map_cons, List.map_nil, hs, hx, hr]
  exact hK _ _ (h aa cap w' k1 k2 k3)
/-- One state more. -/
theorem Dec.push {w0 w W w1 : World} {B D m : Nat} {v v' : Value} {cs : List Int} (h : Dec w B D v m cs) (hb : Below B w0 w) (hB : B ≤ w0.heap.size) (hW : Below w.heap.size w W)
    (hown : w1.ownsRow B 92 2 v' (m + 1) (vals (cs ++ [0, 0]))) (hg : W.grownBy w1 v.ownBlock) (hat : v'.ownBlock = v.ownBlock ∨ v'.ownBlock = some W.heap.size) :
    (w1.cell? ⟨D, 0, none⟩ = some v ∧ w1.frozen? ⟨D, 0, none⟩ = false) ∧ Dec (w1.setCell ⟨D, 0, none⟩ v') B D v' (m + 1) (cs ++ [0, 0]) ∧ Below B w0 (w1.setCell ⟨D, 0, none⟩ v') := by
  have hD := h.lt
  have hDW : D < W.heap.size := Nat.lt_of_lt_of_le hD hW.size
  have hP : w1.heap[D]? = w.heap[D]? := (hg.block D hDW (fun e => h.apart e.symm)).trans (hW.block D hD)
  have hv : v'.ownBlock ≠ some D := by
    rcases hat with e | e
    · rw [e]; exact h.apart
    · rw [e]; simp; omega
  have hPb := hP.trans h.blk
  refine ⟨⟨by simp [World.cell?, hPb], by simp [World.frozen?, hPb]⟩, ⟨h.at_, ?_, ownsRow_setCell_other hown hv _, hv⟩, below_set (grown_below hB (below_join hb hW hB) hg (fun k e => (own_lt2 h.own k e).1)) h.at_ _⟩
  rw [block_set hPb]; simp

open Trie in
/-- A decoder of the first k symbols. -/
def DecT (w : World) (B D : Nat) (l c : Nat → Nat) (k : Nat) : Prop :=
  ∃ v ps cs, Dec w B D v ps.length cs ∧ Tree l c k ps (wayOf cs) ∧ ps.length ≤ 1 + 16 * k ∧ ∀ z ∈ cs, -301 ≤ z ∧ z ≤ 16777216
open Trie in
/-- On the way along the code of one more. -/
def Lay (w0 : World) (B D : Nat) (l c : Nat → Nat) (k j st : Nat) (w : World) : Prop :=
  Below B w0 w ∧ ∃ v ps cs, Dec w B D v ps.length cs ∧ Tree l c k ps (wayOf cs) ∧ ps.length ≤ 1 + 16 * k + j ∧ (∀ z ∈ cs, -301 ≤ z ∧ z ≤ 16777216) ∧ ps[st]? = some (pre (l k) (c k) j) ∧ ∀ j', j' ≤ j → ∃ st' : Nat, ps[st']? = some (pre (l k) (c k) j')
theorem set_bound {cs : List Int} {i : Nat} {z lo hi : Int} (h : ∀ y ∈ cs, lo ≤ y ∧ y ≤ hi) (hz : lo ≤ z ∧ z ≤ hi) : ∀ y ∈ cs.set i z, lo ≤ y ∧ y ≤ hi := by
  intro y hy
  rcases List.mem_or_eq_of_mem_set hy with h1 | rfl
  · exact h y h1
  · exact hz
theorem wayOf_bound {cs : List Int} (h : ∀ z ∈ cs, -301 ≤ z ∧ z ≤ 16777216) (st b : Nat) : -301 ≤ wayOf cs st b ∧ wayOf cs st b ≤ 16777216 := by
  unfold wayOf
  rw [List.getD_eq_getElem?_getD]
  cases hz : cs[st * 2 + b]? with
  | none => simp
  | some z => exact h z (List.mem_of_getElem? hz)

open Trie in
set_option maxRecDepth 100000 in
set_option maxHeartbeats 1600000 in
theorem lay_any (w0 w : World) (B D : Nat) (l c : Nat → Nat) (k N : Nat) (h : DecT w B D l c k) (hb : Below B w0 w) (hB : B ≤ w0.heap.size) (ha : Apart l c N) (hk : k < N) (hN : N ≤ 300) (hl : 1 ≤ l k ∧ l k ≤ 16) (hc : c k < 2 ^ l k) :
    Calls Tryd.prog 63 #[.pointer (some ⟨D, 0, none⟩), .int .i64 (k : Nat), .int .i64 (c k : Nat), .int .i64 (l k : Nat)] w fun e w' => e = .returned (.tuple #[]) ∧ DecT w' B D l c (k + 1) ∧ Below B w0 w' := by
  have hc16 : c k < 65536 := by
    have := Nat.pow_le_pow_right (show 0 < 2 by omega) hl.2
    omega
  have hst : Lay w0 B D l c k 0 0 w := by
    obtain ⟨v, ps, cs, h1, h2, h3, h4⟩ := h
    have e : pre (l k) (c k) 0 = (0, 0) := by simp [pre, Nat.div_eq_of_lt hc]
    exact ⟨hb, v, ps, cs, h1, h2, h3, h4, by rw [e]; exact h2.root, fun j' hj => ⟨0, by obtain rfl : j' = 0 := (by omega); rw [e]; exact h2.root⟩⟩
  have HST := Lib.hid hst
  have HA := Lib.hid ha
  obtain ⟨L, hL⟩ : ∃ L, L = l k := ⟨_, rfl⟩
  obtain ⟨C, hC⟩ : ∃ C, C = c k := ⟨_, rfl⟩
  have HLC := Lib.hid (And.intro hL hC)
  rw [← hL] at hl hc ⊢
  rw [← hC] at hc hc16 ⊢
  clear h hb hst ha hL hC
  go_enter Tryd.func63, Tryd.ntmps63
  go_wp2
  go_loopw [8, 9] (fun sv iv wr => ∃ st j : Nat, j < L ∧ sv = .int .i64 st ∧ iv = .int .i64 ((L - 1 - j : Nat) : Int) ∧ Lay w0 B D l c k j st wr) (fun _ iv _ => (intOf iv).toNat)
  case atStart => exact ⟨0, 0, by omega, rfl, by rw [show ((L - 1 - 0 : Nat) : Int) = (L : Int) - 1 by omega], HST.out⟩
  case round =>
    clear HST
    obtain ⟨st, j, hj, rfl, rfl, hlay⟩ := hrel
    obtain ⟨hb, v, ps, cs, dec, tree, hlen, hbd, hps, hall⟩ := hlay
    have hm0 : 0 < ps.length := (List.getElem?_eq_some_iff.1 tree.root).1
    have hsl : st < ps.length := (List.getElem?_eq_some_iff.1 hps).1
    obtain ⟨g, cap, rfl, hBg, hgD, hgl, hmc, c0, f0, hcell⟩ := dec.open hm0
    have hclen := dec.length
    by_cases hend : j + 1 = L
    · obtain ⟨b, hb1⟩ : ∃ b, b = C % 2 := ⟨_, rfl⟩
      have hb2 : b < 2 := by omega
      obtain ⟨hold, hfr⟩ := hcell st b hsl hb2
      have X := Lib.hid (show DecT (wr.setCell ⟨g, st * 2 + b, none⟩ (.int .i64 (-(k : Int) - 1))) B D l c (k + 1) ∧ Below B w0 (wr.setCell ⟨g, st * 2 + b, none⟩ (.int .i64 (-(k : Int) - 1))) from by
        refine ⟨⟨_, ps, _, dec.set hsl hb2 (-(k : Int) - 1), ?_, by omega, set_bound hbd (by omega)⟩, below_set hb hBg _⟩
        have ej : j = l k - 1 := by have := HLC.out.1; omega
        rw [ej] at hps
        refine tree.close HA.out hk (by have := HLC.out.1; omega) hps (fun j' hj' => hall j' (by have := HLC.out.1; omega)) (fun st' b' hb' => ?_)
        rw [← HLC.out.2, ← hb1]
        exact wayOf_set cs st b st' b' _ hb2 hb' (by rw [hclen]; omega))
      have k1 : bits .and .i64 (C : Int) 1 = (b : Int) := by rw [hb1]; exact i64_odd C (by omega)
      have k2 : bits .xor .i64 (-1) (k : Int) = -(k : Int) - 1 := i64_not _ (by omega)
      have ei : ((L - 1 - j : Nat) : Int) = 0 := by omega
      generalize wayOf cs st b = z at *
      rw [ei]
      clear hcell tree dec hall hps hbd hclen hb1
      go_wp2
      go_end0
      exact ⟨rfl, X.out.1, X.out.2⟩
    · obtain ⟨i, hi⟩ : ∃ i, i = L - 1 - j := ⟨_, rfl⟩
      have hi0 : 0 < i := by omega
      have hi16 : i ≤ 15 := by omega
      obtain ⟨q, hq⟩ : ∃ q, q = C / 2 ^ i := ⟨_, rfl⟩
      obtain ⟨b, hb1⟩ : ∃ b, b = q % 2 := ⟨_, rfl⟩
      have hb2 : b < 2 := by omega
      have hqC : q ≤ C := by rw [hq]; exact Nat.div_le_self _ _
      have hqi : (C : Int) / 2 ^ i = (q : Int) := by rw [hq]; simp
      have k1 : bits .and .i64 (q : Int) 1 = (b : Int) := by rw [hb1]; exact i64_odd q (by omega)
      have ei : ((L - 1 - j : Nat) : Int) = (i : Int) := by rw [hi]
      have ej : L - (j + 1) = i := by omega
      have hbk : b = c k / 2 ^ (l k - (j + 1)) % 2 := by rw [← HLC.out.1, ← HLC.out.2, ej, ← hq, hb1]
      have e2 : ((L - 1 - (j + 1) : Nat) : Int) = (i : Int) - 1 := by omega
      have hjl : j + 1 < l k := by have := HLC.out.1; omega
      obtain ⟨hold, hfr⟩ := hcell st b hsl hb2
      have hwb := wayOf_bound hbd st b
      have hnl := tree.no_leaf HA.out hk hps (by omega)
      rw [← hbk] at hnl
      rw [ei]
      by_cases hw : wayOf cs st b = 0
      · have hm5 : ps.length ≤ 5000 := by omega
        have dec4 := dec.set hsl hb2 (ps.length : Int)
        have hb4 := below_set hb hBg (i := st * 2 + b) (.int .i64 (ps.length : Int))
        have GT := Lib.hid (fun (way' : Nat → Nat → Int) hw' => tree.grow (way' := way') hps hjl hbk hw hw')
        have HALL := Lib.hid hall
        have HBD := Lib.hid hbd
        have HCL := Lib.hid hclen
        have HLE := Lib.hid hlen
        rw [hw] at hold
        have D4 := Lib.hid dec4
        have B4 := Lib.hid hb4
        clear hcell tree dec hall hps hbd hclen hb1 hq hqC hbk hnl hw hwb ei ej hi dec4 hb4 hb hlen
        obtain ⟨w4, hw4⟩ : ∃ w4, w4 = wr.setCell ⟨g, st * 2 + b, none⟩ (.int .i64 (ps.length : Int)) := ⟨_, rfl⟩
        have hs4 : w4.heap.size = wr.heap.size := by rw [hw4]; simp [World.setCell]
        rw [← hw4] at D4 B4
        have HW4 := Lib.hid hw4
        have BW := Lib.hid (show Below w4.heap.size w4 ((w4.alloc (.cells #[.int .i64 0, .int .i64 0] 92)).drew) from below_drew ((Below.refl _ _).alloc (Nat.le_refl _) _))
        have OW := Lib.hid (own_kept2 (w' := (w4.alloc (.cells #[.int .i64 0, .int .i64 0] 92)).drew) D4.out.own (fun q e => BW.out.block q (own_lt2 D4.out.own q e).2))
        have n0 : ((w4.alloc (.cells #[.int .i64 0, .int .i64 0] 92)).drew).cell? ⟨w4.heap.size, 0, none⟩ = some (.int .i64 0) := by
          show (w4.alloc (.cells #[.int .i64 0, .int .i64 0] 92)).cell? ⟨w4.heap.size, 0, none⟩ = _
          rw [World.cell?_alloc_mark]; rfl
        have n1 : ((w4.alloc (.cells #[.int .i64 0, .int .i64 0] 92)).drew).cell? ⟨w4.heap.size, 1, none⟩ = some (.int .i64 0) := by
          show (w4.alloc (.cells #[.int .i64 0, .int .i64 0] 92)).cell? ⟨w4.heap.size, 1, none⟩ = _
          rw [World.cell?_alloc_mark]; rfl
        have hBs : B ≤ ((w4.alloc (.cells #[.int .i64 0, .int .i64 0] 92)).drew).heap.size := by
          have h1 := BW.out.size
          have h2 := D4.out.lt
          have h3 := D4.out.at_
          omega
        have NW := Lib.hid (And.intro n0 (And.intro n1 hBs))
        have HS4 := Lib.hid hs4
        clear n0 n1 hBs hw4 hs4
        go_wp2
        go_still_tail 12, (by kernel_rfl)
        change wpList _ _ _ _ _ wr.drew
        go_wp2_with (at_builtin; go_must (refine wpList_append_pair rfl (.tmp 48) (.tmp 50) rfl B ps.length (.slice (some ⟨g, 0, none⟩) ps.length cap) (cs.set (st * 2 + b) (ps.length : Int)) rfl ?e1 wr.heap.size 1 rfl ?e2 ?e3 (by omega) ?e4 ?e5))
        case e1 => have := OW.out; rw [HW4.out] at this; exact this
        case e2 => have := NW.out.1; rw [HS4.out, HW4.out] at this; exact this
        case e3 => have := NW.out.2.1; rw [HS4.out, HW4.out] at this; exact this
        case e4 => have := NW.out.2.2; rw [HW4.out] at this; exact this
        case e5 =>
          intro aa cap2 w5 hown hg hat
          have hg2 : ((w4.alloc (.cells #[.int .i64 0, .int .i64 0] 92)).drew).grownBy w5 (Value.slice (some ⟨g, 0, none⟩) ps.length cap).ownBlock := by rw [HW4.out]; exact hg
          have hat2 : (Value.slice aa (ps.length + 1) cap2).ownBlock = (Value.slice (some ⟨g, 0, none⟩) ps.length cap).ownBlock ∨ (Value.slice aa (ps.length + 1) cap2).ownBlock = some ((w4.alloc (.cells #[.int .i64 0, .int .i64 0] 92)).drew).heap.size := by
            rw [show ((w4.alloc (.cells #[.int .i64 0, .int .i64 0] 92)).drew).heap.size = w4.heap.size + 1 from Array.size_push _, HS4.out]; exact hat
          obtain ⟨⟨q1, q2⟩, d5, b5⟩ := D4.out.push B4.out hB BW.out hown hg2 hat2
          obtain ⟨g', cap', he, hBg', hgD', hgl', hmc', c5, f5, hcell5⟩ := d5.open (by omega)
          cases he
          obtain ⟨hold5, -⟩ := hcell5 st b (by omega) hb2
          have hsl2 : (cs.set (st * 2 + b) (ps.length : Int)).length = ps.length * 2 := by rw [List.length_set]; exact HCL.out
          have hway : ∀ st' b', b' < 2 → wayOf (cs.set (st * 2 + b) (ps.length : Int) ++ [0, 0]) st' b' = if st' = st ∧ b' = b then (ps.length : Int) else if st' = ps.length then 0 else wayOf cs st' b' := fun st' b' hb' => by
            rw [wayOf_more _ _ _ _ hsl2 hb', wayOf_set _ _ _ _ _ _ hb2 hb' (by rw [HCL.out]; omega)]
            by_cases h1 : st' = st ∧ b' = b
            · rw [if_pos h1, if_pos h1, if_neg (by omega)]
            · rw [if_neg h1, if_neg h1]
          rw [hway st b hb2, if_pos ⟨rfl, rfl⟩] at hold5
          have X := Lib.hid (show Lay w0 B D l c k (j + 1) ps.length (w5.setCell ⟨D, 0, none⟩ (.slice (some ⟨g', 0, none⟩) (ps.length + 1) cap2)) from by
            refine ⟨b5, _, ps ++ [pre (l k) (c k) (j + 1)], _, by rw [List.length_append]; exact d5, GT.out _ hway, ?_, ?_, ?_, fun j' hj' => ?_⟩
            · rw [List.length_append]
              have := HLE.out
              simp only [List.length_cons, List.length_nil]
              omega
            · intro z hz
              rcases List.mem_append.1 hz with h1 | h1
              · exact set_bound HBD.out (by omega) z h1
              · simp only [List.mem_cons, List.not_mem_nil, or_false, or_self] at h1
                omega
            · rw [List.getElem?_append_right (Nat.le_refl _), Nat.sub_self]; rfl
            · rcases Nat.lt_or_ge j' (j + 1) with h1 | h1
              · obtain ⟨st', h2⟩ := HALL.out j' (by omega)
                exact ⟨st', by rw [List.getElem?_append_left (List.getElem?_eq_some_iff.1 h2).1]; exact h2⟩
              · obtain rfl : j' = j + 1 := (by omega)
                exact ⟨ps.length, by rw [List.getElem?_append_right (Nat.le_refl _), Nat.sub_self]; rfl⟩)
          clear hown hg hat hg2 hat2 d5 b5 hcell5 hway hsl2
          go_wp2_with fail
          go_roundw
          case rel => exact ⟨ps.length, j + 1, by omega, rfl, by rw [e2], X.out⟩
          case measure => simp [intOf]; omega
      · obtain ⟨t, ht⟩ := Int.eq_ofNat_of_zero_le hnl
        have ht0 : 0 < t := by omega
        have hdn := tree.down st b t _ _ hps hb2 ht ht0
        have epre : (j + 1, 2 * (pre (l k) (c k) j).2 + b) = pre (l k) (c k) (j + 1) := by
          have hnext := pre_next (L := l k) (C := c k) (j := j) (Nat.le_of_lt hjl)
          rw [← hbk] at hnext
          exact (show pre (l k) (c k) (j + 1) = (j + 1, 2 * (pre (l k) (c k) j).2 + b) from Prod.ext rfl hnext).symm
        have X := Lib.hid (show Lay w0 B D l c k (j + 1) t wr from ⟨hb, _, ps, cs, dec, tree, by omega, hbd, by rw [← epre]; exact hdn, fun j' hj' => by
          rcases Nat.lt_or_ge j' (j + 1) with h1 | h1
          · exact hall j' (by omega)
          · obtain rfl : j' = j + 1 := (by omega)
            exact ⟨t, by rw [← epre]; exact hdn⟩⟩)
        rw [ht] at hold hwb
        have u1 : decide ((t : Int) = 0) = false := decide_eq_false (by omega)
        have u2 : ((t : Int) == 0) = false := by simp; omega
        clear hcell tree dec hall hps hbd hclen hb1 hq hqC hbk hnl hw ht hdn epre ei ej hi
        go_wp2
        go_roundw
        case rel => exact ⟨t, j + 1, by omega, rfl, by rw [e2], X.out⟩
        case measure => simp [intOf]; omega
end Go.Proofs.YtpmoknnhgginjaaDoor.Hu

/- What a decoder of all codes answers; the contract of NewDecoder. -/
namespace Go.Proofs.YtpmoknnhgginjaaDoor.Hu
open Go.RowKit
set_option linter.unusedVariables false

/-- Lengths and codes as they are. -/
structure TF (zs cz : List Int) (l c : Nat → Nat) : Prop where
  at' : ∀ s, s < zs.length → zs.getD s 0 = (l s : Int) ∧ l s ≤ 16 ∧ cz.getD s 0 = (c s : Int) ∧ (0 < l s → c s < 2 ^ l s)
  apart : Trie.Apart l c zs.length
  out : ∀ s, zs.length ≤ s → l s = 0
theorem tf_of {zs : List Int} (hm : mayCode zs = true) : ∃ l c, TF zs (codesZ zs) l c := by
  obtain ⟨hle, hrm⟩ := may_rooms hm
  have hl : lensOk zs = true := by unfold mayCode at hm; rw [Bool.and_eq_true] at hm; exact hm.1
  have hat := fun i hi => code_below (nats zs) i hi
  have hap := fun i j hi hj => code_apart (nats zs) i j hi hj
  have hcz := fun i hi => codesZ_at (zs := zs) (i := i) hi
  have hnl := nats_length zs
  refine ⟨fun s => (nats zs).getD s 0, fun s => outOf (nats zs) (Huff.ordered (nats zs) 16) s, ⟨fun s hs => ?_, fun s t hs ht hne h0 hst => ?_, fun s hs => ?_⟩⟩
  · exact ⟨(nats_at hl hs).1, (nats_at hl hs).2, hcz s hs, fun h0 => hat s (by rw [hnl]; exact hs) h0 (nats_at hl hs).2 hrm⟩
  · exact hap s t (by rw [hnl]; exact hs) (by rw [hnl]; exact ht) h0 hst (nats_at hl ht).2 hne
  · show (nats zs).getD s 0 = 0
    rw [List.getD_eq_getElem?_getD, List.getElem?_eq_none (by rw [hnl]; exact hs)]; rfl

theorem beginsS_is {zs cs : List Int} {n v : Int} {k : Nat} (h : beginsS zs cs n v k = true) : ∃ s, s < k ∧ n < zs.getD s 0 ∧ cs.getD s 0 / 2 ^ (zs.getD s 0 - n).toNat = v := by
  unfold beginsS at h
  rw [List.any_eq_true] at h
  obtain ⟨s, h1, h2⟩ := h
  unfold longer at h2
  simp only [Bool.and_eq_true, decide_eq_true_eq, beq_iff_eq] at h2
  exact ⟨s, List.mem_range.1 h1, h2.1, h2.2⟩
theorem beginsS_has {zs cs : List Int} {n v : Int} {k s : Nat} (h1 : s < k) (h2 : n < zs.getD s 0) (h3 : cs.getD s 0 / 2 ^ (zs.getD s 0 - n).toNat = v) : beginsS zs cs n v k = true := by
  unfold beginsS
  rw [List.any_eq_true]
  refine ⟨s, List.mem_range.2 h1, ?_⟩
  unfold longer
  simp only [Bool.and_eq_true, decide_eq_true_eq, beq_iff_eq]
  exact ⟨h2, h3⟩

open Trie in
/-- Step, by the document's own words. -/
theorem step_is {zs cz : List Int} {l c : Nat → Nat} {ps : List (Nat × Nat)} {cs : List Int} (T : TF zs cz l c) (tree : Tree l c zs.length ps (wayOf cs)) {st n v b : Nat} (hps : ps[st]? = some (n, v)) (hb : b < 2) :
    (∀ s, findS zs cz ((n + 1 : Nat) : Int) ((2 * v + b : Nat) : Int) zs.length = some s → stepOf ps.length cs st b = (0, (s : Int))) ∧
    (findS zs cz ((n + 1 : Nat) : Int) ((2 * v + b : Nat) : Int) zs.length = none → beginsS zs cz ((n + 1 : Nat) : Int) ((2 * v + b : Nat) : Int) zs.length = true → ∃ t : Nat, stepOf ps.length cs st b = ((t : Int), -1) ∧ 0 < t ∧ ps[t]? = some (n + 1, 2 * v + b)) ∧
    (findS zs cz ((n + 1 : Nat) : Int) ((2 * v + b : Nat) : Int) zs.length = none → beginsS zs cz ((n + 1 : Nat) : Int) ((2 * v + b : Nat) : Int) zs.length = false → stepOf ps.length cs st b = (-1, -1)) := by
  have hsl : st < ps.length := (List.getElem?_eq_some_iff.1 hps).1
  have hst : stepOf ps.length cs st b = if wayOf cs st b = 0 then (-1, -1) else if wayOf cs st b < 0 then (0, -(wayOf cs st b) - 1) else (wayOf cs st b, -1) := by
    unfold stepOf
    rw [if_pos ⟨by omega, by omega⟩, Int.toNat_natCast]
  refine ⟨fun s hs => ?_, fun hf hg => ?_, fun hf hg => ?_⟩
  · obtain ⟨h1, h2, h3⟩ := findS_is hs
    obtain ⟨q1, q2, q3, q4⟩ := T.at' s h1
    rw [q1] at h2
    rw [q3] at h3
    have e1 : l s = n + 1 := by omega
    have e2 : c s = 2 * v + b := by omega
    have he := tree.ends s st h1 (by omega) (by
      rw [hps]
      congr 1
      simp only [pre]
      rw [e1, e2, show n + 1 - (n + 1 - 1) = 1 by omega, Prod.mk.injEq]
      omega)
    rw [e2, show (2 * v + b) % 2 = b by omega] at he
    rw [hst, he, if_neg (by omega), if_pos (by omega), Prod.mk.injEq]
    omega
  · obtain ⟨s, h1, h2, h3⟩ := beginsS_is hg
    obtain ⟨q1, q2, q3, q4⟩ := T.at' s h1
    rw [q1] at h2
    rw [q1, q3, show ((l s : Int) - ((n + 1 : Nat) : Int)).toNat = l s - (n + 1) by omega] at h3
    have h4 : c s / 2 ^ (l s - (n + 1)) = 2 * v + b := by
      have : ((c s / 2 ^ (l s - (n + 1)) : Nat) : Int) = ((2 * v + b : Nat) : Int) := by rw [← h3]; simp
      omega
    obtain ⟨t, ht⟩ := tree.have_ s (n + 1) h1 (by omega)
    have ep : pre (l s) (c s) (n + 1) = (n + 1, 2 * v + b) := by simp only [pre, h4]
    rw [ep] at ht
    have ht0 : 0 < t := by
      rcases Nat.eq_zero_or_pos t with e | e
      · subst e
        rw [tree.root, Option.some.injEq, Prod.mk.injEq] at ht
        omega
      · exact e
    have hw := tree.parent hps hb ht ht0
    refine ⟨t, ?_, ht0, ht⟩
    rw [hst, hw, if_neg (by omega), if_neg (by omega)]
  · rw [hst]
    by_cases h0 : wayOf cs st b = 0
    · rw [if_pos h0]
    · exfalso
      by_cases hn : wayOf cs st b < 0
      · obtain ⟨s, h1, h2, h3, h4⟩ := tree.leaf st b n v hps hb hn
        obtain ⟨q1, q2, q3, q4⟩ := T.at' s h1
        obtain ⟨t, ht⟩ := findS_has (zs := zs) (cs := cz) (n := ((n + 1 : Nat) : Int)) (v := ((2 * v + b : Nat) : Int)) h1 (by rw [q1, h3]) (by rw [q3, h4])
        rw [hf] at ht
        cases ht
      · obtain ⟨t, ht⟩ := Int.eq_ofNat_of_zero_le (show 0 ≤ wayOf cs st b by omega)
        have hd := tree.down st b t n v hps hb ht (by omega)
        obtain ⟨s, j, h1, h2, h3, h4⟩ := tree.of_ t _ hd (by omega)
        rw [Prod.ext_iff] at h4
        simp only [pre] at h4
        obtain ⟨h4, h5⟩ := h4
        rcases Nat.lt_or_ge s zs.length with hs | hs
        · obtain ⟨q1, q2, q3, q4⟩ := T.at' s hs
          have : beginsS zs cz ((n + 1 : Nat) : Int) ((2 * v + b : Nat) : Int) zs.length = true := beginsS_has hs (by rw [q1]; omega) (by
            rw [q1, q3, show ((l s : Int) - ((n + 1 : Nat) : Int)).toNat = l s - j by omega, h5]
            simp)
          rw [hg] at this
          cases this
        · have := T.out s hs
          omega

/-- What NewDecoder gives. -/
def NewSay (w : World) (zs : List Int) (e : Ending) (w' : World) : Prop :=
  if mayCode zs = true then ∃ B D l c, w.heap.size ≤ B ∧ e = .returned (.tuple #[.pointer (some ⟨D, 0, none⟩), .bool true]) ∧ TF zs (codesZ zs) l c ∧ DecT w' B D l c zs.length ∧ Below w.heap.size w w'
  else e = .returned (.tuple #[.pointer none, .bool false]) ∧ Below w.heap.size w w'
theorem new_yes {w w' : World} {zs : List Int} {e : Ending} (hm : mayCode zs = true) (h : ∃ B D l c, w.heap.size ≤ B ∧ e = .returned (.tuple #[.pointer (some ⟨D, 0, none⟩), .bool true]) ∧ TF zs (codesZ zs) l c ∧ DecT w' B D l c zs.length ∧ Below w.heap.size w w') : NewSay w zs e w' := by
  unfold NewSay; rw [if_pos hm]; exact h
theorem new_no {w w' : World} {zs : List Int} {e : Ending} (hm : mayCode zs = false) (h : e = .returned (.tuple #[.pointer none, .bool false]) ∧ Below w.heap.size w w') : NewSay w zs e w' := by
  unfold NewSay; rw [hm, if_neg (by simp)]; exact h

theorem run_make_pairs (w : World) : (Instr.makeSlice 89 (.int .i64 1) (.int .i64 1)).run Tryd.prog w = .ok (.slice (some ⟨w.heap.size, 0, none⟩) 1 1) (w.alloc (.cells #[.int .i64 0, .int .i64 0] 92)) := by
  obtain ⟨i, hi, hzz⟩ := Option.map_eq_some_iff.1 info50
  simp only [Prod.mk.injEq] at hzz
  obtain ⟨hz, hs, hb⟩ := hzz
  have hr := run_make (P := Tryd.prog) w 89 92 i _ Tryd.underlying89 hi hz .i64 .i64 1 1 (by omega) (Int.le_refl _) (by rw [hb]; omega) (by omega)
  have e : madeCells (Value.agg #[.int .i64 0, .int .i64 0]).cells (Int.toNat 1 * 2) = #[.int .i64 0, .int .i64 0] := by kernel_rfl
  rw [hr, hs, e]
  rfl
theorem dec_start (w : World) (l c : Nat → Nat) : DecT ((w.alloc (.cells #[.int .i64 0, .int .i64 0] 92)).alloc (.cells #[.slice (some ⟨w.heap.size, 0, none⟩) 1 1] 91)) w.heap.size (w.heap.size + 1) l c 0 := by
  have h1 : (w.alloc (.cells #[.int .i64 0, .int .i64 0] 92)).heap.size = w.heap.size + 1 := Array.size_push _
  refine ⟨.slice (some ⟨w.heap.size, 0, none⟩) 1 1, [(0, 0)], [0, 0], ⟨Nat.le_succ _, by rw [← h1]; exact heap_alloc_new _ _, ⟨rfl, Or.inr ⟨w.heap.size, 1, #[.int .i64 0, .int .i64 0], rfl, Nat.le_refl _, ?_, Nat.le_refl _, by unfold maxLen; omega, rfl, rfl⟩⟩, by simp [Value.ownBlock]⟩, ?_, by simp, by intro z hz; simp at hz; omega⟩
  · exact (Below.heap_alloc _ _ _ (by rw [h1]; omega)).trans (heap_alloc_new _ _)
  · have e : wayOf [0, 0] = fun _ _ => 0 := by
      funext st b
      unfold wayOf
      match st * 2 + b with
      | 0 => rfl
      | 1 => rfl
      | k + 2 => rfl
    rw [e]
    exact Trie.tree_none l c

set_option maxRecDepth 100000 in
set_option maxHeartbeats 1600000 in
theorem new_any (w : World) (a : Option Addr) (n c : Nat) (zs : List Int) (h : Ints w a n zs) (hn : n ≤ 16777216) :
    Calls Tryd.prog 56 #[.slice a n c] w (NewSay w zs) := by
  have C0 := codes_says w a n c zs h hn
  unfold CodesSay at C0
  have HZ := Lib.hid h
  cases hm : mayCode zs
  · rw [hm] at C0
    simp only [Bool.false_eq_true, if_false] at C0
    have C := Lib.hid C0
    have HM := Lib.hid hm
    clear h C0 hm
    go_enter Tryd.func56, Tryd.ntmps56
    go_wp2_with fail
    refine C.out.mono ?_
    rintro e w1 ⟨aa, cap, rfl, hb⟩
    have HB := Lib.hid hb
    clear hb
    go_wp2_with fail
    go_ret2
    exact new_no HM.out ⟨rfl, HB.out⟩
  · rw [hm] at C0
    simp only [if_true] at C0
    obtain ⟨l, cd, T⟩ := tf_of hm
    have hlen : zs.length ≤ 300 := by
      unfold mayCode lensOk at hm
      simp only [Bool.and_eq_true, decide_eq_true_eq] at hm
      exact hm.1.1
    have hln : zs.length = n := h.1
    have C := Lib.hid C0
    have HM := Lib.hid (And.intro hm T)
    have hmk := run_make_pairs
    clear h C0 hm T
    go_enter Tryd.func56, Tryd.ntmps56
    go_wp2_with fail
    refine C.out.mono ?_
    rintro e w1 ⟨aa, cap, rfl, hi, hcap, hb⟩
    have HCI := Lib.hid hi
    have HB := Lib.hid hb
    have HD0 := Lib.hid (dec_start w1 l cd)
    clear hi hb
    go_wp2_with fail
    have hs1 : (w1.alloc (.cells #[.int .i64 0, .int .i64 0] 92)).heap.size = w1.heap.size + 1 := Array.size_push _
    have HB0 := Lib.hid (((Below.refl w1.heap.size w1).alloc (Nat.le_refl _) (.cells #[.int .i64 0, .int .i64 0] 92)).alloc (by rw [hs1]; exact Nat.le_succ _) (.cells #[.slice (some ⟨w1.heap.size, 0, none⟩) 1 1] 91))
    clear hmk hs1
    go_loopw [21] (fun cnt wr => ∃ i : Nat, i ≤ n ∧ cnt = .int .i64 i ∧ DecT wr w1.heap.size (w1.heap.size + 1) l cd i ∧ Below w1.heap.size w1 wr) (fun cnt _ => n - (intOf cnt).toNat)
    case atStart => exact ⟨0, Nat.zero_le _, rfl, HD0.out, HB0.out⟩
    case round =>
      clear HD0 HB0
      obtain ⟨i, hi, rfl, hd, hb⟩ := hrel
      by_cases hlt : i < n
      · obtain ⟨b0, o0, z, rfl, hz, _, hcz⟩ := ((HZ.out.below HB.out).below hb).at hlt
        obtain ⟨b1, o1, x, rfl, hx, _, hcx⟩ := (HCI.out.below hb).at hlt
        obtain ⟨q1, q2, q3, q4⟩ := HM.out.2.at' i (by omega)
        rw [zs_getD hz] at q1
        rw [zs_getD hx] at q3
        subst q1
        subst q3
        by_cases h0 : l i = 0
        · have X := Lib.hid (show DecT wr w1.heap.size (w1.heap.size + 1) l cd (i + 1) ∧ Below w1.heap.size w1 wr from by
            obtain ⟨v, ps, cs, k1, k2, k3, k4⟩ := hd
            exact ⟨⟨v, ps, cs, k1, k2.skip h0, by omega, k4⟩, hb⟩)
          rw [h0] at hcz
          have hcz' : wr.cell? ⟨b0, o0 + i, none⟩ = some (.int .i64 0) := hcz
          clear hz hx hcx hcz hd hb q2 q4 h0
          go_wp2_with fail
          go_roundw
          case rel => exact ⟨i + 1, hlt, by go_num, X.out.1, X.out.2⟩
          case measure => simp [intOf]; omega
        · have CL := Lib.hid (lay_any w1 wr w1.heap.size (w1.heap.size + 1) l cd i zs.length hd hb (Nat.le_refl _) HM.out.2.apart (by omega) hlen ⟨by omega, q2⟩ (q4 (by omega)))
          generalize l i = li at *
          generalize cd i = ci at *
          have u1 : decide ((li : Int) = 0) = false := decide_eq_false (by omega)
          have u2 : ((li : Int) == 0) = false := by simp; omega
          have u3 : ((li : Int) != 0) = true := by simp; omega
          have u4 : decide (¬ (li : Int) = 0) = true := decide_eq_true (by omega)
          clear hz hx hd hb q2 q4
          go_wp2_with fail
          refine CL.out.mono ?_
          rintro e w3 ⟨rfl, hd3, hb3⟩
          have X := Lib.hid (And.intro hd3 hb3)
          clear hd3 hb3
          go_wp2_with fail
          go_roundw
          case rel => exact ⟨i + 1, hlt, by go_num, X.out.1, X.out.2⟩
          case measure => simp [intOf]; omega
      · obtain rfl : n = i := by omega
        have X := Lib.hid (show DecT wr w1.heap.size (w1.heap.size + 1) l cd zs.length ∧ Below w.heap.size w wr from ⟨by rw [hln]; exact hd, below_join HB.out hb (Nat.le_refl _)⟩)
        clear hd hb
        go_wp2_with fail
        go_ret2
        exact new_yes HM.out.1 ⟨_, _, l, cd, HB.out.size, rfl, HM.out.2, X.out.1, X.out.2⟩
end Go.Proofs.YtpmoknnhgginjaaDoor.Hu
