/- The walk of Codes. -/
import Derived.Test.YtoiknbbimgeihaaXD
namespace Go.Proofs.Ytoiknbbimgeihaa
open Go.RowKit
set_option linter.unusedVariables false

theorem nats_getD {zs : List Int} (i : Nat) : (nats zs).getD i 0 = (zs.getD i 0).toNat := by
  unfold nats
  rw [List.getD_eq_getElem?_getD, List.getD_eq_getElem?_getD, List.getElem?_map]
  cases zs[i]? <;> simp
theorem lens_range {zs : List Int} (h : lensOk zs = true) (i : Nat) : 0 ≤ zs.getD i 0 ∧ zs.getD i 0 ≤ 16 := by
  unfold lensOk at h
  simp only [decide_eq_true_eq] at h
  rw [List.getD_eq_getElem?_getD]
  cases hz : zs[i]? with
  | none => simp
  | some z => exact h.2 z (List.mem_of_getElem? hz)
/-- Lengths in their order: the document's. -/
theorem ranked_ordered {zs : List Int} {us : List Nat} (hl : lensOk zs = true) (h : Ranked zs us) : us = Huff.ordered (nats zs) 16 := by
  have hg := fun i => nats_getD (zs := zs) i
  have hr := fun i => lens_range hl i
  have hp : us.Perm (Huff.ordered (nats zs) 16) := by
    refine h.perm.trans ?_
    refine (List.perm_ext_iff_of_nodup (usedTo_nodup _ _) (Huff.nodup_ordered _ _)).2 fun i => ?_
    rw [Huff.mem_ordered, nats_length, hg]
    unfold usedTo
    simp only [List.mem_filter, List.mem_range, decide_eq_true_eq]
    have := hr i
    omega
  refine hp.eq_of_pairwise (le := Ahead zs) ?_ h.order ((Huff.ordered_lengths (nats zs) 16).imp ?_)
  · intro a b _ _ h1 h2
    unfold Ahead at h1 h2
    omega
  · intro a b hab
    rw [hg, hg] at hab
    unfold Ahead
    have := hr a
    have := hr b
    omega

/-- The next code, ahead of the shift. -/
theorem next_code {l os : List Nat} {nx ah s y : Nat} (h : nx * 2 ^ (16 - ah) = Huff.rooms l os) (hah : ah ≤ y) (hy : l.getD s 0 = y) (hy16 : y ≤ 16) :
    nx * 2 ^ (y - ah) = Huff.rooms l os / Huff.room l s ∧ (nx * 2 ^ (y - ah) + 1) * 2 ^ (16 - y) = Huff.rooms l (os ++ [s]) := by
  have hr : Huff.room l s = 2 ^ (16 - y) := by unfold Huff.room; rw [hy]
  have hp : nx * 2 ^ (y - ah) * 2 ^ (16 - y) = Huff.rooms l os := by
    rw [← h, Nat.mul_assoc, ← Nat.pow_add, show y - ah + (16 - y) = 16 - ah by omega]
  refine ⟨?_, ?_⟩
  · rw [hr, ← hp, Nat.mul_div_cancel _ (Nat.two_pow_pos _)]
  · rw [Huff.rooms_append, Nat.add_mul, Nat.one_mul, hp, Huff.rooms_cons, Huff.rooms_nil, hr, Nat.add_zero]
theorem le_rooms {nx ah r : Nat} (h : nx * 2 ^ (16 - ah) = r) (hr : r ≤ 65536) : nx ≤ 65536 := by
  have := Nat.le_mul_of_pos_right nx (Nat.two_pow_pos (16 - ah))
  omega
theorem rooms_take (l os : List Nat) (i : Nat) : Huff.rooms l (os.take i) ≤ Huff.rooms l os := by
  conv => rhs; rw [← List.take_append_drop i os, Huff.rooms_append]
  omega

/-- What is known of the symbols in their order. -/
structure CF (zs : List Int) (us l : List Nat) : Prop where
  mem : ∀ s ∈ us, s < zs.length ∧ 1 ≤ l.getD s 0 ∧ l.getD s 0 ≤ 16
  asc : us.Pairwise (fun s t => l.getD s 0 ≤ l.getD t 0)
  nodup : us.Nodup
  at' : ∀ s, s < zs.length → zs[s]? = some ((l.getD s 0 : Nat) : Int)
  len : us.length ≤ zs.length
  rooms : Huff.rooms l us ≤ 65536
  codes : ∀ j, j < zs.length → (codesZ zs)[j]? = some ((outOf l us j : Nat) : Int)
  below : ∀ j, outOf l us j ≤ 65536
theorem CF.of {zs : List Int} {us : List Nat} (hm : mayCode zs = true) (hr : Ranked zs us) : CF zs us (nats zs) := by
  obtain ⟨hle, hrm⟩ := may_rooms hm
  have hl : lensOk zs = true := by unfold mayCode at hm; rw [Bool.and_eq_true] at hm; exact hm.1
  have hu := ranked_ordered hl hr
  have hmem := fun s => Huff.mem_ordered (nats zs) 16 s
  have hasc := Huff.ordered_lengths (nats zs) 16
  have hnd := Huff.nodup_ordered (nats zs) 16
  have hcg := fun j => codesOf_get (nats zs) j
  have hcb := fun j => codesOf_le (nats zs) j hle hrm
  rw [← hu] at hmem hasc hnd hrm
  simp only [← hu] at hcg hcb
  clear hu
  have hlen := hr.perm.length_eq
  have hlen2 := usedTo_length zs zs.length
  refine ⟨fun s hs => ?_, hasc.imp (fun h => by omega), hnd, fun s hs => ?_, by omega, hrm, fun j hj => ?_, hcb⟩
  · have := (hmem s).1 hs
    rwa [nats_length] at this
  · rw [List.getElem?_eq_getElem hs]
    have h1 := lens_range hl s
    have h2 := nats_getD (zs := zs) s
    have h3 : zs.getD s 0 = zs[s] := by rw [List.getD_eq_getElem?_getD, List.getElem?_eq_getElem hs]; rfl
    rw [h2, h3, Int.toNat_of_nonneg (by rw [← h3]; exact h1.1)]
  · unfold codesZ
    have hjl : j < (codesOf (nats zs)).length := by rw [codesOf_length, nats_length]; exact hj
    have h1 := hcg j (by rw [nats_length]; exact hj)
    rw [List.getD_eq_getElem?_getD, List.getElem?_eq_getElem hjl] at h1
    simp only [Option.getD_some] at h1
    rw [List.getElem?_map, List.getElem?_eq_getElem hjl, Option.map_some, h1]

theorem succ_i64 (nc : Nat) (h : nc + 1 ≤ 65536) : wrap64 ((nc : Int) + 1) = ((nc + 1 : Nat) : Int) ∧ IntKind.i64.wrap ((nc : Int) + 1) = ((nc + 1 : Nat) : Int) := by
  rw [IntWalk.wrap64_in _ (by omega), wrap_i64 _ (by omega) (by omega)]
  exact ⟨rfl, rfl⟩
theorem shl_i64 {x d nc : Nat} (h : (x : Int) * 2 ^ d = (nc : Int)) (hn : nc + 1 ≤ 65536) : IntKind.i64.wrap ((x : Int) * 2 ^ d) = (nc : Int) ∧ wrap64 ((x : Int) * 2 ^ d) = (nc : Int) := by
  rw [h, IntWalk.wrap64_in _ (by omega), wrap_i64 _ (by omega) (by omega)]
  exact ⟨rfl, rfl⟩
/-- One more symbol's code. -/
structure CS (zs : List Int) (us l : List Nat) (i x y s ls d nc : Nat) : Prop where
  sym : us[i]? = some s
  lt : s < zs.length
  len : zs[s]? = some (ls : Int)
  le : ls ≤ 16
  d16 : d ≤ 16
  sub : (ls : Int) - (y : Int) = (d : Int)
  shl : (x : Int) * 2 ^ d = (nc : Int)
  nc16 : nc + 1 ≤ 65536
  rooms : (nc + 1) * 2 ^ (16 - ls) = Huff.rooms l (us.take (i + 1))
  asc : ∀ t ∈ us.drop (i + 1), ls ≤ l.getD t 0
  out : ∀ j, outOf l (us.take (i + 1)) j = if j = s then nc else outOf l (us.take i) j
theorem CF.step {zs : List Int} {us l : List Nat} (h : CF zs us l) {i x y : Nat} (hlt : i < us.length) (hx : x * 2 ^ (16 - y) = Huff.rooms l (us.take i)) (hdrop : ∀ s ∈ us.drop i, y ≤ l.getD s 0) :
    ∃ s ls d nc, CS zs us l i x y s ls d nc := by
  have hus : us[i]? = some us[i] := List.getElem?_eq_getElem hlt
  have hdc : us.drop i = us[i] :: us.drop (i + 1) := List.drop_eq_getElem_cons hlt
  have htk : us.take (i + 1) = us.take i ++ [us[i]] := take_more hus
  have hyl : y ≤ l.getD us[i] 0 := hdrop _ (by rw [hdc]; exact List.mem_cons_self)
  have hpw : ∀ t ∈ us.drop (i + 1), l.getD us[i] 0 ≤ l.getD t 0 := by
    have h1 : (us.drop i).Pairwise (fun s t => l.getD s 0 ≤ l.getD t 0) := h.asc.sublist (List.drop_sublist i us)
    rw [hdc, List.pairwise_cons] at h1
    exact h1.1
  have hsn : us[i] ∉ us.take i := fun hmem => by
    have h1 := h.nodup
    rw [← List.take_append_drop i us, hdc] at h1
    exact (List.nodup_append.1 h1).2.2 _ hmem _ List.mem_cons_self rfl
  obtain ⟨hs1, hs2, hs3⟩ := h.mem us[i] (List.getElem_mem hlt)
  have hzs := h.at' us[i] hs1
  obtain ⟨q1, q2⟩ := next_code hx hyl rfl hs3
  have hr : Huff.rooms l (us.take (i + 1)) ≤ 65536 := Nat.le_trans (rooms_take l us _) h.rooms
  rw [← htk] at q2
  have hnc2 := le_rooms q2 hr
  have hout : ∀ j, outOf l (us.take (i + 1)) j = if j = us[i] then x * 2 ^ (l.getD us[i] 0 - y) else outOf l (us.take i) j := fun j => by
    rw [htk, outOf_snoc l _ us[i] j hsn, q1]
  clear h hdrop hx q1 hr hsn htk hdc hs2
  generalize us[i] = s at *
  generalize hls : l.getD s 0 = ls at *
  obtain ⟨d, hd⟩ : ∃ d, d = ls - y := ⟨_, rfl⟩
  rw [← hd] at hnc2 hout q2
  obtain ⟨nc, hnc⟩ : ∃ nc, nc = x * 2 ^ d := ⟨_, rfl⟩
  rw [← hnc] at hnc2 q2
  simp only [← hnc] at hout
  refine ⟨s, ls, d, nc, hus, hs1, hzs, hs3, ?_, ?_, ?_, hnc2, q2, hpw, hout⟩
  · clear hout q2 hnc hnc2; omega
  · clear hout q2 hnc hnc2; omega
  · rw [hnc]; simp

set_option maxRecDepth 100000 in
set_option maxHeartbeats 1600000 in
theorem codes_says : CodesSays := by
  intro w a n c zs h hn
  have C0 := weight_says w a n c zs h hn
  have HD := Lib.hid (Below.refl w.heap.size w)
  unfold CodesSay
  cases hm : mayCode zs
  · simp only [Bool.false_eq_true, if_false]
    have hwx : lensOk zs = true → 65536 < weightZ zs := by
      intro hl
      unfold mayCode at hm
      rw [hl, Bool.true_and] at hm
      simp only [decide_eq_false_iff_not] at hm
      omega
    generalize weightZ zs = x at *
    generalize lensOk zs = y at *
    have C := Lib.hid C0
    clear C0
    have HX := Lib.hid hwx
    clear h hm hwx
    go_enter Try.func16, Try.ntmps16
    go_wp2_with fail
    refine C.out.mono ?_
    rintro e w1 ⟨rfl, hb⟩
    have HB := Lib.hid hb
    clear hb
    cases y
    · go_wp2_with fail
      go_ret2
      exact ⟨none, 0, rfl, HB.out⟩
    · have u : decide ((65536 : Int) < (x : Int)) = true := by have := HX.out rfl; simp; omega
      go_wp2_with fail
      go_ret2
      exact ⟨none, 0, rfl, HB.out⟩
  · simp only [if_true]
    have hl : lensOk zs = true := by unfold mayCode at hm; rw [Bool.and_eq_true] at hm; exact hm.1
    have hx : weightZ zs ≤ 65536 := by unfold mayCode at hm; rw [Bool.and_eq_true, decide_eq_true_eq] at hm; exact hm.2
    rw [hl] at C0
    generalize weightZ zs = x at *
    have u : decide ((65536 : Int) < (x : Int)) = false := by simp; omega
    have hmk := run_make_row' (P := Try.prog) 22 3 (.int .i64 0) 8 Try.underlying22 info3 rfl .i64 .i64 n (by omega) (by omega)
    have C := Lib.hid C0
    clear C0
    have HZ := Lib.hid h
    have HF := Lib.hid (And.intro hl hm)
    clear h hm hl hx
    go_enter Try.func16, Try.ntmps16
    go_wp2_with fail
    refine C.out.mono ?_
    rintro e w1 ⟨rfl, hb⟩
    have HB := Lib.hid hb
    have CR := Lib.hid (ranked_any (w1.alloc (.cells (madeCells #[.int .i64 0] n) 3)) a n c zs ((HZ.out.below hb).later (fun k hk => Below.heap_alloc _ _ _ hk)) hn)
    clear hb
    go_wp2_with fail
    refine CR.out.mono ?_
    rintro e w2 ⟨ar, cap, us, rfl, _, hr, hi, hfr, hb2⟩
    have cf := CF.of HF.out.2 hr
    have hgsz : (w1.alloc (.cells (madeCells #[.int .i64 0] n) 3)).heap.size = w1.heap.size + 1 := Array.size_push _
    have hrow0 : Row w2 w1.heap.size n (fun j => (outOf (nats zs) [] j : Nat)) :=
      (made_row w1 n).later (hb2.block _ (by rw [hgsz]; exact Nat.lt_succ_self _))
    have hbw : Below w.heap.size w w2 := below_more (HB.out.alloc HB.out.size _) hb2 (Nat.le_refl _)
    have hne : ∀ x, ar = some x → x.block ≠ w1.heap.size := fun x hx e => by have := hfr x hx; omega
    have hgw : w1.heap.size < w2.heap.size := by have := hb2.size; omega
    have hln : zs.length = n := HZ.out.1
    have hul : us.length ≤ 16777216 := by have := cf.len; omega
    generalize nats zs = l at *
    subst hln
    have CFH := Lib.hid cf
    have HI := Lib.hid (And.intro hi (And.intro hne hbw))
    clear cf hi hne hr hfr hb2 CR
    clear hmk hgsz HD HF u
    go_wp2_with fail
    go_loopw [7, 8, 28] (fun nx ah cnt wr => ∃ i x y : Nat, i ≤ us.length ∧ cnt = .int .i64 i ∧ nx = .int .i64 x ∧ ah = .int .i64 y ∧ y ≤ 16 ∧ x * 2 ^ (16 - y) = Huff.rooms l (us.take i) ∧ (∀ s ∈ us.drop i, y ≤ l.getD s 0) ∧ Row wr w1.heap.size zs.length (fun j => (outOf l (us.take i) j : Nat)) ∧ (∀ k, k ≠ w1.heap.size → wr.heap[k]? = w2.heap[k]?) ∧ Below w.heap.size w wr) (fun _ _ cnt _ => us.length - (intOf cnt).toNat)
    case atStart => exact ⟨0, 0, 0, Nat.zero_le _, rfl, rfl, rfl, by omega, by simp [Huff.rooms_nil], fun _ _ => Nat.zero_le _, hrow0, fun _ _ => rfl, HI.out.2.2⟩
    case round =>
      clear hrow0
      obtain ⟨i, x, y, hi, rfl, rfl, rfl, hy16, hx, hdrop, hrow, hbut, hbel⟩ := hrel
      by_cases hlt : i < us.length
      · obtain ⟨s, ls, d, nc, cs⟩ := CFH.out.step hlt hx hdrop
        have hnc2 := cs.nc16
        have hs1 := cs.lt
        have hzs := cs.len
        have hls16 := cs.le
        have hw0 := cs.shl
        obtain ⟨b1, off1, s1, rfl, hz1, _, hc1⟩ := HI.out.1.at hlt
        have es1 : s1 = (s : Int) := by
          unfold natZ at hz1
          rw [List.getElem?_map, cs.sym] at hz1
          cases hz1; rfl
        subst es1
        have hne1 : b1 ≠ w1.heap.size := HI.out.2.1 _ rfl
        have hc1' : wr.cell? ⟨b1, off1 + i, none⟩ = some (.int .i64 (s : Nat)) := (World.cell?_of_block (w := w2) (hbut b1 hne1)).trans hc1
        obtain ⟨b, off, z, rfl, hz, _, hcz0⟩ := (HZ.out.below hbel).at hs1
        rw [hzs] at hz
        cases hz
        have hbg : b < w.heap.size := by
          obtain ⟨b', off', z', e, _, _, hcl⟩ := HZ.out.at hs1
          cases e
          exact World.block_lt_of_cell? w (⟨b, off + s, none⟩ : Addr) hcl
        have hwg : w.heap.size ≤ w1.heap.size := HB.out.size
        obtain ⟨old, hold, hfr2⟩ : ∃ old : Int, wr.cell? ⟨w1.heap.size, s, none⟩ = some (.int .i64 old) ∧ wr.frozen? ⟨w1.heap.size, s, none⟩ = false := ⟨_, hrow.cell hs1⟩
        have X := Lib.hid (show Row (wr.setCell ⟨w1.heap.size, s, none⟩ (.int .i64 nc)) w1.heap.size zs.length (fun j => (outOf l (us.take (i + 1)) j : Nat)) ∧ (∀ k, k ≠ w1.heap.size → (wr.setCell ⟨w1.heap.size, s, none⟩ (.int .i64 nc)).heap[k]? = w2.heap[k]?) ∧ Below w.heap.size w (wr.setCell ⟨w1.heap.size, s, none⟩ (.int .i64 nc)) from by
          refine ⟨?_, fun k hk => (Below.heap_setCell _ _ _ _ (by simpa using hk)).trans (hbut k hk), below_set hbel hwg _⟩
          refine hrow.set hs1 (fun j hj => ?_)
          rw [cs.out]
          split <;> rfl)
        have hneb : b ≠ w1.heap.size := by omega
        have hcz2 : (wr.setCell ⟨w1.heap.size, s, none⟩ (.int .i64 nc)).cell? ⟨b, off + s, none⟩ = some (.int .i64 (ls : Nat)) :=
          (World.cell?_of_block (w := wr) (Below.heap_setCell _ _ _ _ (by simpa using hneb))).trans hcz0
        have hdi := cs.sub
        have hdl := cs.d16
        have CSH := Lib.hid cs
        clear cs hx hdrop hrow hbut hbel hz1 hc1 hzs
        have hd0 : (0 : Int) ≤ (d : Int) := by omega
        have hd64 : (d : Int) ≤ 64 := by omega
        obtain ⟨hw2, hw3⟩ := shl_i64 hw0 hnc2
        obtain ⟨hn1, hn2⟩ := succ_i64 nc hnc2
        clear hw0
        go_wp2
        go_roundw
        case rel => exact ⟨i + 1, nc + 1, ls, hlt, by go_num, rfl, rfl, CSH.out.le, CSH.out.rooms, CSH.out.asc, X.out.1, X.out.2.1, X.out.2.2⟩
        case measure => simp [intOf]; omega
      · obtain rfl : i = us.length := by omega
        rw [List.take_length] at hrow
        have hfin : Ints wr (some ⟨w1.heap.size, 0, none⟩) zs.length (codesZ zs) := hrow.ints (codesZ_length zs) (fun z hz => by
          obtain ⟨j, hj⟩ := List.mem_iff_getElem?.1 hz
          have hjn : j < zs.length := by have := (List.getElem?_eq_some_iff.1 hj).1; rw [codesZ_length] at this; exact this
          rw [CFH.out.codes j hjn] at hj
          cases hj
          have := CFH.out.below j
          omega) (fun j hj => CFH.out.codes j hj)
        have HFIN := Lib.hid (And.intro hfin hbel)
        clear hrow hbut hbel hdrop hx hfin
        go_wp2
        go_ret2
        exact ⟨_, _, rfl, HFIN.out.1, Nat.le_refl _, HFIN.out.2⟩
end Go.Proofs.Ytoiknbbimgeihaa
