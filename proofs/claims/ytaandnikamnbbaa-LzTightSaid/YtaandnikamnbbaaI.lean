/- Rows of numbers that a call writes; the walk of byByte. -/
import Derived.Test.YtaandnikamnbbaaF
import Derived.Test.YtaandnikamnbbaaPA
namespace Go.Proofs.Ytaandnikamnbbaa
open Go.RowKit
set_option linter.unusedVariables false

/-- A row of whole numbers that the call writes. -/
def RowK (ty : TypeId) (k : IntKind) (w : World) (g n : Nat) (f : Nat → Nat) : Prop :=
  ∃ cur : Array Value, w.heap[g]? = some (.cells cur ty (0, 0)) ∧ n ≤ cur.size ∧ ∀ j, j < n → cur[j]? = some (.int k (f j : Nat))
theorem RowK.cell {ty : TypeId} {k : IntKind} {w : World} {g n j : Nat} {f : Nat → Nat} (h : RowK ty k w g n f) (hj : j < n) : w.cell? ⟨g, j, none⟩ = some (.int k (f j : Nat)) ∧ w.frozen? ⟨g, j, none⟩ = false := by
  obtain ⟨cur, h1, h2, h3⟩ := h
  exact ⟨by simp [World.cell?, h1, h3 j hj], by simp [World.frozen?, h1]⟩
theorem RowK.set {ty : TypeId} {k : IntKind} {w : World} {g n i z : Nat} {f f' : Nat → Nat} (h : RowK ty k w g n f) (hf : ∀ j, j < n → f' j = if j = i then z else f j) : RowK ty k (w.setCell ⟨g, i, none⟩ (.int k (z : Nat))) g n f' := by
  obtain ⟨cur, h1, h2, h3⟩ := h
  refine ⟨cur.setIfInBounds i (.int k (z : Nat)), block_set h1 _, by simpa using h2, fun j hj => ?_⟩
  rw [hf j hj]
  by_cases e : i = j
  · subst e
    rw [Array.getElem?_setIfInBounds_self_of_lt (by omega), if_pos rfl]
  · rw [Array.getElem?_setIfInBounds_ne e, if_neg (fun h => e h.symm)]
    exact h3 j hj
theorem RowK.lt {ty : TypeId} {k : IntKind} {w : World} {g n : Nat} {f : Nat → Nat} (h : RowK ty k w g n f) : g < w.heap.size := by
  obtain ⟨cur, h1, _⟩ := h
  exact lt_of_block h1
theorem RowK.keep {ty : TypeId} {k : IntKind} {w w' : World} {g n : Nat} {f : Nat → Nat} (h : RowK ty k w g n f) (hb : w'.heap[g]? = w.heap[g]?) : RowK ty k w' g n f := by
  obtain ⟨cur, h1, h2⟩ := h
  exact ⟨cur, hb.trans h1, h2⟩
theorem RowK.congr {ty : TypeId} {k : IntKind} {w : World} {g n : Nat} {f f' : Nat → Nat} (h : RowK ty k w g n f) (he : ∀ j, j < n → f' j = f j) : RowK ty k w g n f' := by
  obtain ⟨cur, h1, h2, h3⟩ := h
  exact ⟨cur, h1, h2, fun j hj => by rw [he j hj]; exact h3 j hj⟩

/-- Places in memory. -/
def Places (w : World) (a : Option Addr) (n : Nat) (ps : List Nat) : Prop :=
  ps.length = n ∧ (∀ p ∈ ps, p < 2147483648) ∧ (0 < n → ∃ b off, a = some ⟨b, off, none⟩ ∧ ∀ (j p : Nat), ps[j]? = some p → w.cell? ⟨b, off + j, none⟩ = some (.int .i32 (p : Nat)))
theorem Places.later {w w' : World} {a : Option Addr} {n : Nat} {ps : List Nat} (h : Places w a n ps) (hk : ∀ k, k < w.heap.size → w'.heap[k]? = w.heap[k]?) : Places w' a n ps := by
  obtain ⟨h1, h2, h3⟩ := h
  refine ⟨h1, h2, fun hp => ?_⟩
  obtain ⟨b, off, e, hc⟩ := h3 hp
  exact ⟨b, off, e, fun j y hj => (World.cell?_of_block (w := w) (hk _ (World.block_lt_of_cell? w _ (hc j y hj)))).trans (hc j y hj)⟩
theorem Places.at {w : World} {a : Option Addr} {n i : Nat} {ps : List Nat} (h : Places w a n ps) (hi : i < n) : ∃ b off p, a = some ⟨b, off, none⟩ ∧ ps[i]? = some p ∧ p < 2147483648 ∧ w.cell? ⟨b, off + i, none⟩ = some (.int .i32 (p : Nat)) := by
  obtain ⟨h1, h2, h3⟩ := h
  obtain ⟨b, off, e, hc⟩ := h3 (by omega)
  have hl : i < ps.length := by omega
  exact ⟨b, off, ps[i], e, List.getElem?_eq_getElem hl, h2 _ (List.getElem_mem hl), hc i _ (List.getElem?_eq_getElem hl)⟩
theorem RowK.places {w : World} {g n : Nat} {f : Nat → Nat} {ps : List Nat} (h : RowK 21 .i32 w g n f) (hl : ps.length = n) (hz : ∀ p ∈ ps, p < 2147483648) (hf : ∀ j, j < n → ps[j]? = some (f j)) : Places w (some ⟨g, 0, none⟩) n ps := by
  refine ⟨hl, hz, fun _ => ⟨g, 0, rfl, fun j z hj => ?_⟩⟩
  have hjn : j < n := by have := (List.getElem?_eq_some_iff.1 hj).1; omega
  have k := (h.cell hjn).1
  have e := hf j hjn
  rw [hj] at e
  rw [Option.some.inj e, Nat.zero_add]
  exact k
theorem info21 : (Try.prog.info? 21).map (fun i => (i.zero, i.size, i.bytes)) = some (some (.int .i32 0), 1, 4) := by kernel_rfl
theorem made_row (w : World) (n : Nat) : RowK 21 .i32 (w.alloc (.cells (madeCells #[.int .i32 0] n) 21)) w.heap.size n (fun _ => 0) :=
  ⟨_, heap_alloc_new _ _, by rw [size_madeCells]; exact Nat.le_refl _, fun j hj => by simp [madeCells, hj, Nat.mod_one]⟩

/-- What a call tells: places, in memory of its own. -/
def Sorted (w : World) (ps : List Nat) (n : Nat) (e : Ending) (w' : World) : Prop :=
  ∃ g, e = .returned (.slice (some ⟨g, 0, none⟩) n n) ∧ Places w' (some ⟨g, 0, none⟩) n ps ∧ w.heap.size ≤ g ∧ Below w.heap.size w w'

/-- The counts, one place further on each. -/
def cnt1 (key : Nat → Nat) (ps : List Nat) (y : Nat) : Nat := if y = 0 then 0 else (Lz.ofKey key ps (y - 1)).length
theorem cnt1_snoc (key : Nat → Nat) {ps : List Nat} {i p : Nat} (h : ps[i]? = some p) (y : Nat) : cnt1 key (ps.take (i + 1)) y = if y = key p + 1 then cnt1 key (ps.take i) (key p + 1) + 1 else cnt1 key (ps.take i) y := by
  unfold cnt1
  rw [Lz.take_snoc h]
  by_cases hy : y = 0
  · subst hy
    rw [if_pos rfl, if_neg (by omega), if_pos rfl]
  · rw [if_neg hy, Lz.ofKey_snoc, List.length_append]
    by_cases he : y = key p + 1
    · subst he
      simp
    · rw [if_neg he, if_neg hy, if_neg (by omega)]
      rfl
/-- Half added up. -/
def cnt2 (key : Nat → Nat) (ps : List Nat) (x y : Nat) : Nat := if y ≤ x then Lz.below key ps y else cnt1 key ps y
theorem cnt2_zero (key : Nat → Nat) (ps : List Nat) (y : Nat) : cnt2 key ps 0 y = cnt1 key ps y := by
  unfold cnt2
  by_cases h : y ≤ 0
  · obtain rfl : y = 0 := by omega
    rw [if_pos (Nat.le_refl 0), Lz.below_zero]; rfl
  · rw [if_neg h]
theorem cnt2_succ (key : Nat → Nat) (ps : List Nat) (x y : Nat) : cnt2 key ps (x + 1) y = if y = x + 1 then cnt2 key ps x (x + 1) + cnt2 key ps x x else cnt2 key ps x y := by
  unfold cnt2
  by_cases h : y = x + 1
  · subst h
    rw [if_pos (Nat.le_refl _), if_pos rfl, if_neg (by omega), if_pos (Nat.le_refl _), Lz.below_succ]
    unfold cnt1
    rw [if_neg (by omega), Nat.add_sub_cancel]
    omega
  · rw [if_neg h]
    by_cases h2 : y ≤ x
    · rw [if_pos h2, if_pos (by omega)]
    · rw [if_neg h2, if_neg (by omega)]
/-- The next place of each key. -/
def cnt3 (key : Nat → Nat) (ps : List Nat) (i y : Nat) : Nat := Lz.below key ps y + (Lz.ofKey key (ps.take i) y).length
theorem cnt3_zero (key : Nat → Nat) (ps : List Nat) (y : Nat) (hy : y ≤ 256) : cnt3 key ps 0 y = cnt2 key ps 256 y := by
  unfold cnt3 cnt2
  rw [if_pos hy, List.take_zero]
  rfl
theorem cnt3_snoc (key : Nat → Nat) {ps : List Nat} {i p : Nat} (h : ps[i]? = some p) (y : Nat) : cnt3 key ps (i + 1) y = if y = key p then cnt3 key ps i (key p) + 1 else cnt3 key ps i y := by
  unfold cnt3
  rw [Lz.take_snoc h, Lz.ofKey_snoc, List.length_append]
  by_cases he : y = key p
  · subst he
    rw [if_pos rfl, if_pos rfl]
    rfl
  · rw [if_neg he, if_neg (fun e => he e.symm)]
    rfl
/-- What is laid of the sorted places so far: place t of them. -/
def Laid (key : Nat → Nat) (ps : List Nat) (i : Nat) (f : Nat → Nat) : Prop :=
  ∀ x r, x < 256 → r < (Lz.ofKey key (ps.take i) x).length → (Lz.ofKey key ps x)[r]? = some (f (Lz.below key ps x + r))
theorem Laid.step {key : Nat → Nat} {ps : List Nat} {i p : Nat} {f : Nat → Nat} (h : Laid key ps i f) (hp : ps[i]? = some p) (hk : ∀ p ∈ ps, key p < 256) : Laid key ps (i + 1) (fun j => if j = cnt3 key ps i (key p) then p else f j) := by
  intro x r hx hr
  rw [Lz.take_snoc hp, Lz.ofKey_snoc, List.length_append] at hr
  obtain ⟨n1, n2⟩ := Lz.ofKey_next key hp
  have hkp := hk p (List.mem_of_getElem? hp)
  have hle := fun y => Lz.ofKey_take_le key ps i y
  by_cases he : key p = x
  · subst he
    rw [if_pos rfl] at hr
    simp only [List.length_cons, List.length_nil] at hr
    by_cases hr2 : r = (Lz.ofKey key (ps.take i) (key p)).length
    · subst hr2
      rw [n1]
      simp only [cnt3, if_true]
    · rw [h (key p) r hx (by omega)]
      have : ¬ Lz.below key ps (key p) + r = cnt3 key ps i (key p) := by unfold cnt3; omega
      simp only [this, if_false]
  · rw [if_neg he] at hr
    simp only [List.length_nil, Nat.add_zero] at hr
    rw [h x r hx hr]
    have hr3 : r < (Lz.ofKey key ps x).length := Nat.lt_of_lt_of_le hr (hle x)
    have : ¬ Lz.below key ps x + r = cnt3 key ps i (key p) := by
      unfold cnt3
      rcases Nat.lt_or_gt_of_ne he with h1 | h1
      · have := Lz.below_mono key ps h1
        omega
      · have := Lz.below_mono key ps h1
        omega
    simp only [this, if_false]
theorem cnt3_lt {key : Nat → Nat} {ps : List Nat} {i p : Nat} (hp : ps[i]? = some p) (hk : ∀ p ∈ ps, key p < 256) : cnt3 key ps i (key p) < ps.length := by
  obtain ⟨n1, n2⟩ := Lz.ofKey_next key hp
  have := Lz.below_le key ps hk (hk p (List.mem_of_getElem? hp))
  unfold cnt3
  omega
theorem Laid.done {key : Nat → Nat} {ps : List Nat} {f : Nat → Nat} (h : Laid key ps ps.length f) (hk : ∀ p ∈ ps, key p < 256) (j : Nat) (hj : j < ps.length) : (Lz.byKey key ps)[j]? = some (f j) := by
  obtain ⟨x, r, hx, hr, rfl⟩ := Lz.upTo_place key ps 256 j (by rw [Lz.below_all key ps hk]; exact hj)
  unfold Lz.byKey
  rw [Lz.upTo_at key ps hr 256 hx]
  exact h x r hx (by rw [List.take_length]; exact hr)
theorem cnt1_le (key : Nat → Nat) (ps : List Nat) (i y : Nat) : cnt1 key (ps.take i) y ≤ ps.length := by
  unfold cnt1
  split
  · omega
  · exact Nat.le_trans (Lz.ofKey_take_le key ps i _) (List.length_filter_le _ _)
theorem below_len (key : Nat → Nat) (ps : List Nat) (y : Nat) : Lz.below key ps y ≤ ps.length := List.length_filter_le _ _
theorem cnt2_le (key : Nat → Nat) (ps : List Nat) (x y : Nat) : cnt2 key ps x y ≤ ps.length := by
  unfold cnt2
  split
  · exact below_len key ps y
  · have := cnt1_le key ps ps.length y
    rwa [List.take_length] at this

theorem info45 : (Try.prog.info? 45).map (fun i => (i.zero, i.size, i.bytes)) = some (some (.agg (Array.replicate 257 (.int .i64 0))), 257, 2056) := by kernel_rfl
theorem zero45 : ∃ zs : Array Value, (∀ w, (zeroValue 45).run Try.prog w = .ok (.agg zs) w) ∧ ¬ zs = #[] ∧ zs.size = 257 ∧ ∀ j, j < 257 → zs[j]? = some (.int .i64 0) := by
  obtain ⟨i0, hi, hz0, hz1, hz2⟩ := info_parts info45
  refine ⟨Array.replicate 257 (.int .i64 0), fun w => by simp [zeroValue, typeInfo, hi, hz0], fun h => ?_, by simp, fun j hj => by simp [hj]⟩
  have := congrArg Array.size h
  simp at this
theorem counts_start (w : World) (zs : Array Value) (hs : zs.size = 257) (hz : ∀ j, j < 257 → zs[j]? = some (.int .i64 0)) : RowK 45 .i64 (w.alloc (.cells zs 45)) w.heap.size 257 (fun _ => 0) :=
  ⟨_, heap_alloc_new _ _, by omega, fun j hj => hz j hj⟩

set_option maxRecDepth 100000 in
set_option maxHeartbeats 1600000 in
theorem byByte_any (w : World) (a : Option Addr) (n c : Nat) (ps : List Nat) (b : Option Addr) (m e : Nat) (ys : List Nat) (hp : Places w a n ps) (hy : Bytes w b m ys) (hlt : ∀ p ∈ ps, p < m) (hn : n ≤ 16777216) (hm : m ≤ 16777216) :
    Calls Try.prog 19 #[.slice a n c, .slice b m e] w (Sorted w (Lz.byKey (fun p => ys.getD p 0) ps) n) := by
  obtain ⟨key, hkey⟩ : ∃ key : Nat → Nat, key = fun p => ys.getD p 0 := ⟨_, rfl⟩
  rw [← hkey]
  have hk256 : ∀ p ∈ ps, key p < 256 := by
    intro p hps
    rw [hkey]
    simp only
    rw [List.getD_eq_getElem?_getD]
    cases hz : ys[p]? with
    | none => simp
    | some z => exact hy.2.1 z (List.mem_of_getElem? hz)
  have hkat : ∀ p ∈ ps, ys[p]? = some (key p) := by
    intro p hps
    have h1 := hlt p hps
    have h2 := hy.1
    rw [hkey]
    simp only
    rw [List.getD_eq_getElem?_getD, List.getElem?_eq_getElem (by omega)]
    rfl
  have hmk := run_make_row' (P := Try.prog) 37 21 (.int .i32 0) 4 Try.underlying37 info21 rfl .i64 .i64 n (by omega) (by omega)
  have HK := Lib.hid (And.intro hk256 hkat)
  have HP := Lib.hid hp
  have HY := Lib.hid hy
  have HLT := Lib.hid hlt
  have hps0 : ps.length = n := hp.1
  have HPL := Lib.hid hps0
  clear hp hy hlt hk256 hkat hkey hps0
  obtain ⟨zs, hz, hzn, hzs, hzat⟩ := zero45
  have hzw := hz w
  have HC0 := Lib.hid ((counts_start w zs hzs hzat).congr (f' := cnt1 key (ps.take 0)) (fun j hj => by unfold cnt1; split <;> rfl))
  have HB0 := Lib.hid (show Below w.heap.size w (w.alloc (.cells zs 45)) from (Below.refl _ _).alloc (Nat.le_refl _) _)
  clear hz hzs hzat
  go_enter Try.func19, Try.ntmps19
  go_wp2_with fail
  clear hzw
  generalize w.alloc (.cells zs 45) = w1 at *
  go_loopw [14] (fun cnt wr => ∃ i : Nat, i ≤ n ∧ cnt = .int .i64 i ∧ RowK 45 .i64 wr w.heap.size 257 (cnt1 key (ps.take i)) ∧ Below w.heap.size w wr) (fun cnt _ => n - (intOf cnt).toNat)
  case atStart => exact ⟨0, Nat.zero_le _, rfl, HC0.out, HB0.out⟩
  case round =>
    obtain ⟨i, hi, rfl, hr, hb⟩ := hrel
    by_cases hlt : i < n
    · obtain ⟨b1, o1, p, rfl, hpi, hp31, hc1⟩ := (HP.out.later hb.block).at hlt
      have hmem : p ∈ ps := List.mem_of_getElem? hpi
      have hpm := HLT.out p hmem
      obtain ⟨b2, o2, y, rfl, hyp, hy256, hc2⟩ := (HY.out.later hb.block).at hpm
      have hkp : y = key p := by
        have := HK.out.2 p hmem
        rw [hyp] at this
        exact Option.some.inj this
      obtain ⟨v, hv⟩ : ∃ v, v = cnt1 key (ps.take i) (y + 1) := ⟨_, rfl⟩
      obtain ⟨hcc, hcf⟩ := hr.cell (show y + 1 < 257 by omega)
      rw [← hv] at hcc
      have hvn : v ≤ 16777216 := by have := cnt1_le key ps i (y + 1); rw [HPL.out] at this; omega
      have X := Lib.hid (show RowK 45 .i64 (wr.setCell ⟨w.heap.size, y + 1, none⟩ (.int .i64 ((v + 1 : Nat) : Int))) w.heap.size 257 (cnt1 key (ps.take (i + 1))) ∧ Below w.heap.size w (wr.setCell ⟨w.heap.size, y + 1, none⟩ (.int .i64 ((v + 1 : Nat) : Int))) from by
        refine ⟨hr.set (fun j hj => ?_), below_set hb (Nat.le_refl _) _⟩
        rw [cnt1_snoc key hpi, ← hkp, ← hv])
      clear hr hb hpi hmem hyp hkp hv
      rw [show ((v + 1 : Nat) : Int) = (v : Int) + 1 by omega] at X
      go_wp2_with fail
      go_roundw
      case rel => exact ⟨i + 1, hlt, by go_num, X.out.1, X.out.2⟩
      case measure => simp [intOf]; omega
    · obtain rfl : i = n := by omega
      rw [List.take_of_length_le (by rw [HPL.out]; exact Nat.le_refl _)] at hr
      have HC1 := Lib.hid (hr.congr (f' := cnt2 key ps 0) (fun j hj => cnt2_zero key ps j))
      have HB1 := Lib.hid hb
      clear hr hb HC0 HB0
      go_wp2_with fail
      go_loopw [29] (fun cnt wl => ∃ x : Nat, x ≤ 256 ∧ cnt = .int .i64 x ∧ RowK 45 .i64 wl w.heap.size 257 (cnt2 key ps x) ∧ Below w.heap.size w wl) (fun cnt _ => 256 - (intOf cnt).toNat)
      case atStart => exact ⟨0, Nat.zero_le _, rfl, HC1.out, HB1.out⟩
      case round =>
        obtain ⟨x, hx, rfl, hr, hb⟩ := hrel
        by_cases hlt : x < 256
        · obtain ⟨u, hu⟩ : ∃ u, u = cnt2 key ps x (x + 1) := ⟨_, rfl⟩
          obtain ⟨v, hv⟩ : ∃ v, v = cnt2 key ps x x := ⟨_, rfl⟩
          obtain ⟨hc1, hf1⟩ := hr.cell (show x + 1 < 257 by omega)
          obtain ⟨hc2, hf2⟩ := hr.cell (show x < 257 by omega)
          rw [← hu] at hc1
          rw [← hv] at hc2
          have hun : u ≤ 16777216 := by have := cnt2_le key ps x (x + 1); rw [HPL.out] at this; omega
          have hvn : v ≤ 16777216 := by have := cnt2_le key ps x x; rw [HPL.out] at this; omega
          have X := Lib.hid (show RowK 45 .i64 (wr.setCell ⟨w.heap.size, x + 1, none⟩ (.int .i64 ((u + v : Nat) : Int))).drew w.heap.size 257 (cnt2 key ps (x + 1)) ∧ Below w.heap.size w (wr.setCell ⟨w.heap.size, x + 1, none⟩ (.int .i64 ((u + v : Nat) : Int))).drew from by
            have h1 := below_set (i := x + 1) hb (Nat.le_refl _) (.int .i64 ((u + v : Nat) : Int))
            refine ⟨(hr.set (f' := cnt2 key ps (x + 1)) (i := x + 1) (z := u + v) (fun j hj => ?_)).keep rfl, ⟨h1.os, h1.tape, h1.output, h1.size, h1.block⟩⟩
            rw [cnt2_succ, ← hu, ← hv])
          clear hr hb hu hv
          rw [show ((u + v : Nat) : Int) = (u : Int) + (v : Int) by omega] at X
          go_wp2_with fail
          go_region
          go_wp2_with fail
          go_roundw
          case rel => exact ⟨x + 1, hlt, by go_num, X.out.1, X.out.2⟩
          case measure => simp [intOf]; omega
        · obtain rfl : x = 256 := by omega
          obtain ⟨G, hG⟩ : ∃ G, G = wr.heap.size := ⟨_, rfl⟩
          have hwG : w.heap.size < G := by rw [hG]; exact hr.lt
          have hmr := made_row wr i
          have hmw : Below wr.heap.size wr (wr.alloc (.cells (madeCells #[.int .i32 0] i) 21)) := (Below.refl _ _).alloc (Nat.le_refl _) _
          have HR := Lib.hid ((hr.congr (f' := cnt3 key ps 0) (fun j hj => cnt3_zero key ps j (by omega))).keep (w' := wr.alloc (.cells (madeCells #[.int .i32 0] i) 21)) (hmw.block _ hr.lt))
          rw [← hG] at hmr
          have HM := Lib.hid hmr
          have HB := Lib.hid (below_more hb hmw (Nat.le_refl _))
          have hmkw := hmk wr
          rw [← hG] at hmkw
          have HG := Lib.hid hG
          clear hr hb hmr hmw hmk HC1 HB1 hG
          go_wp2_with fail
          clear hmkw
          generalize wr.alloc (.cells (madeCells #[.int .i32 0] i) 21) = w2 at *
          go_loopw [47] (fun cnt wl => ∃ (j : Nat) (f : Nat → Nat), j ≤ i ∧ cnt = .int .i64 j ∧ RowK 45 .i64 wl w.heap.size 257 (cnt3 key ps j) ∧ RowK 21 .i32 wl G i f ∧ Laid key ps j f ∧ Below w.heap.size w wl) (fun cnt _ => i - (intOf cnt).toNat)
          case atStart => exact ⟨0, fun _ => 0, Nat.zero_le _, rfl, HR.out, HM.out, fun x r hx hr => by simp [Lz.ofKey] at hr, HB.out⟩
          case round =>
            clear HR HM HB
            obtain ⟨j, f, hj, rfl, hr, hs, hl, hb⟩ := hrel
            by_cases hlt : j < i
            · obtain ⟨b1, o1, p, rfl, hpi, hp31, hc1⟩ := (HP.out.later hb.block).at hlt
              have hmem : p ∈ ps := List.mem_of_getElem? hpi
              have hpm := HLT.out p hmem
              obtain ⟨b2, o2, y, rfl, hyp, hy256, hc2⟩ := (HY.out.later hb.block).at hpm
              have hkp : y = key p := by
                have := HK.out.2 p hmem
                rw [hyp] at this
                exact Option.some.inj this
              have hb2w : b2 < w.heap.size := by
                obtain ⟨b', o', y', e', _, _, hcl⟩ := HY.out.at hpm
                cases e'
                exact World.block_lt_of_cell? w (⟨b2, o2 + p, none⟩ : Addr) hcl
              obtain ⟨v, hv⟩ : ∃ v, v = cnt3 key ps j y := ⟨_, rfl⟩
              obtain ⟨hcc, hcf⟩ := hr.cell (show y < 257 by omega)
              rw [← hv] at hcc
              have hvi : v < i := by
                have := cnt3_lt hpi HK.out.1
                rw [← hkp, ← hv, HPL.out] at this
                exact this
              obtain ⟨hsc, hsf⟩ := hs.cell hvi
              obtain ⟨old, hold⟩ : ∃ old, old = f v := ⟨_, rfl⟩
              rw [← hold] at hsc
              have hneG : b2 ≠ G := by omega
              have hneW : w.heap.size ≠ G := by omega
              have hs2 : ((wr.setCell ⟨G, v, none⟩ (.int .i32 (p : Nat))).heap[w.heap.size]? = wr.heap[w.heap.size]?) := Below.heap_setCell _ _ _ _ (by simpa using hneW)
              have hd2 : (wr.setCell ⟨G, v, none⟩ (.int .i32 (p : Nat))).cell? ⟨b2, o2 + p, none⟩ = some (.int .u8 (y : Nat)) := (World.cell?_of_block (w := wr) (Below.heap_setCell _ _ _ _ (by simpa using hneG))).trans hc2
              have hd3 : (wr.setCell ⟨G, v, none⟩ (.int .i32 (p : Nat))).cell? ⟨w.heap.size, y, none⟩ = some (.int .i64 (v : Nat)) := (World.cell?_of_block (w := wr) hs2).trans hcc
              have hd4 : (wr.setCell ⟨G, v, none⟩ (.int .i32 (p : Nat))).frozen? ⟨w.heap.size, y, none⟩ = false := (World.frozen?_of_block (w := wr) hs2).trans hcf
              have X := Lib.hid (show RowK 45 .i64 ((wr.setCell ⟨G, v, none⟩ (.int .i32 (p : Nat))).setCell ⟨w.heap.size, y, none⟩ (.int .i64 ((v + 1 : Nat) : Int))) w.heap.size 257 (cnt3 key ps (j + 1)) ∧
                  RowK 21 .i32 ((wr.setCell ⟨G, v, none⟩ (.int .i32 (p : Nat))).setCell ⟨w.heap.size, y, none⟩ (.int .i64 ((v + 1 : Nat) : Int))) G i (fun t => if t = cnt3 key ps j (key p) then p else f t) ∧
                  Laid key ps (j + 1) (fun t => if t = cnt3 key ps j (key p) then p else f t) ∧ Below w.heap.size w ((wr.setCell ⟨G, v, none⟩ (.int .i32 (p : Nat))).setCell ⟨w.heap.size, y, none⟩ (.int .i64 ((v + 1 : Nat) : Int))) from by
                refine ⟨(hr.keep hs2).set (fun t ht => ?_), (hs.set (f' := fun t => if t = cnt3 key ps j (key p) then p else f t) (i := v) (z := p) (fun t ht => ?_)).keep (Below.heap_setCell _ _ _ _ (by simpa using fun h => hneW h.symm)), hl.step hpi HK.out.1, below_set (below_set hb (by omega) _) (Nat.le_refl _) _⟩
                · rw [cnt3_snoc key hpi, ← hkp, ← hv]
                · rw [hv, hkp])
              clear hr hs hl hb hpi hmem hyp hkp hv hold hs2
              rw [show ((v + 1 : Nat) : Int) = (v : Int) + 1 by omega] at X
              go_wp2_with fail
              go_roundw
              case rel => exact ⟨j + 1, _, hlt, by go_num, X.out.1, X.out.2.1, X.out.2.2.1, X.out.2.2.2⟩
              case measure => simp [intOf]; omega
            · obtain rfl : j = i := by omega
              have hlen := HPL.out
              have hbl := Lz.byKey_length key ps HK.out.1
              have X := Lib.hid (show Sorted w (Lz.byKey key ps) j (.returned (.slice (some ⟨G, 0, none⟩) j j)) wr from
                ⟨G, rfl, hs.places (by omega) (fun p hp => HP.out.2.1 p ((Lz.mem_byKey key ps HK.out.1 p).1 hp)) (fun t ht => by
                  have hl2 := hl
                  rw [← hlen] at hl2
                  exact hl2.done HK.out.1 t (by omega)), by omega, hb⟩)
              clear hr hs hl hb hbl hlen
              go_wp2_with fail
              go_ret
              exact X.out
end Go.Proofs.Ytaandnikamnbbaa
