/- The walk of lay. -/
import Derived.Test.YtoiknbbimgeihaaYB
import Derived.Test.YtoiknbbimgeihaaXH
namespace Go.Proofs.Ytoiknbbimgeihaa
open Go.RowKit
set_option linter.unusedVariables false

theorem info50 : (Try.prog.info? 50).map (fun i => (i.zero, i.size, i.bytes)) = some (some (.agg #[.int .i64 0, .int .i64 0]), 2, 16) := by kernel_rfl
theorem run_append_pair (w : World) (ty : TypeId) (base n : Nat) (v : Value) (cs : List Int) (hown : w.ownsRow base 50 2 v n (vals cs)) (g c : Nat) (h0 : w.cell? ⟨g, 0, none⟩ = some (.int .i64 0)) (h1 : w.cell? ⟨g, 1, none⟩ = some (.int .i64 0)) (hn : n ≤ 33554432) (hbase : base ≤ w.heap.size) :
    ∃ aa cap w', (Builtin.append_ #[46, 46] ty #[v, .slice (some ⟨g, 0, none⟩) 1 c]).run Try.prog w = .ok (.slice aa (n + 1) cap) w' ∧
      w'.ownsRow base 50 2 (.slice aa (n + 1) cap) (n + 1) (vals (cs ++ [0, 0])) ∧ w.grownBy w' v.ownBlock ∧ ((Value.slice aa (n + 1) cap).ownBlock = v.ownBlock ∨ (Value.slice aa (n + 1) cap).ownBlock = some w.heap.size) := by
  obtain ⟨i0, hi, hz0, hz1, hz2⟩ := info_parts info50
  obtain ⟨v', w', hr, k1, k2, k4, k5⟩ := run_append_own_at (P := Try.prog) w base 46 ty 50 i0 (.agg #[.int .i64 0, .int .i64 0]) 2 16 Try.underlying46 hi hz0 hz1 hz2 rfl (by decide) v n _ hown ⟨g, 0, none⟩ 1 c [.int .i64 0, .int .i64 0] rfl
    (by
      intro j u hj
      rw [add_spot]
      match j, hj with
      | 0, hj => cases hj; exact h0
      | 1, hj => cases hj; exact h1
      | j + 2, hj => simp at hj)
    (by intro u hu; simp only [List.mem_cons, List.not_mem_nil, or_false, or_self] at hu; subst hu; rfl) (by unfold maxLen; omega) (by omega) hbase
  have hv : ∃ aa cap, v' = .slice aa (n + 1) cap := by
    rcases k1.2 with ⟨e, e2⟩ | ⟨g, cap, _, e, _⟩
    · omega
    · exact ⟨_, _, e⟩
  obtain ⟨aa, cap, rfl⟩ := hv
  have e : vals cs ++ [.int .i64 0, .int .i64 0] = vals (cs ++ [0, 0]) := by simp [vals]
  rw [e] at k1
  exact ⟨aa, cap, w', hr, k1, k2, k5⟩
theorem wpList_append_pair {w : World} {ops : Array Oper} {rest : List Oper} {o : Oper} {a : Act} {Q : Exit → Act → World → Prop} (hgd : o.guard = none) (s x : Operand) (ho : o.op = .call { callee := .builtin .append, args := #[s, x], argTypes := #[46, 46] })
    (base n : Nat) (v : Value) (cs : List Int) (hs : a.eval s = v) (hown : w.ownsRow base 50 2 v n (vals cs)) (g c : Nat) (hx : a.eval x = .slice (some ⟨g, 0, none⟩) 1 c) (h0 : w.cell? ⟨g, 0, none⟩ = some (.int .i64 0)) (h1 : w.cell? ⟨g, 1, none⟩ = some (.int .i64 0)) (hn : n ≤ 33554432) (hbase : base ≤ w.heap.size)
    (h : ∀ aa cap w', w'.ownsRow base 50 2 (.slice aa (n + 1) cap) (n + 1) (vals (cs ++ [0, 0])) → w.grownBy w' v.ownBlock → ((Value.slice aa (n + 1) cap).ownBlock = v.ownBlock ∨ (Value.slice aa (n + 1) cap).ownBlock = some w.heap.size) → wpList Try.prog ops Q rest (a.put o.dst (.slice aa (n + 1) cap)) w') :
    wpList Try.prog ops Q (o :: rest) a w := by
  refine wpList_plain hgd fun K hK => ?_
  obtain ⟨aa, cap, w', hr, k1, k2, k3⟩ := run_append_pair w o.type base n v cs hown g c h0 h1 hn hbase
  unfold Oper.wp execOp
  simp only [ho, resolve, invoke, builtin, Sem.run_bind, Sem.run_pure, Result.andThen_ok, List.map_toArray, List.map_cons, List.map_nil, hs, hx, hr]
  exact hK _ _ (h aa cap w' k1 k2 k3)
/-- One state more. -/
theorem Dec.push {w0 w W w1 : World} {B D m : Nat} {v v' : Value} {cs : List Int} (h : Dec w B D v m cs) (hb : Below B w0 w) (hB : B ≤ w0.heap.size) (hW : Below w.heap.size w W)
    (hown : w1.ownsRow B 50 2 v' (m + 1) (vals (cs ++ [0, 0]))) (hg : W.grownBy w1 v.ownBlock) (hat : v'.ownBlock = v.ownBlock ∨ v'.ownBlock = some W.heap.size) :
    (w1.cell? ⟨D, 0, none⟩ = some v ∧ w1.frozen? ⟨D, 0, none⟩ = false) ∧ Dec (w1.setCell ⟨D, 0, none⟩ v') B D v' (m + 1) (cs ++ [0, 0]) ∧ Below B w0 (w1.setCell ⟨D, 0, none⟩ v') := by
  have hD := h.lt
  have hDW : D < W.heap.size := Nat.lt_of_lt_of_le hD hW.size
  have hP : w1.heap[D]? = w.heap[D]? := (hg.block D hDW (fun e => h.apart e.symm)).trans (hW.block D hD)
  have hv : v'.ownBlock ≠ some D := by
    rcases hat with e | e
    · rw [e]; exact h.apart
    · rw [e]; simp; omega
  have hPb := hP.trans h.blk
  refine ⟨⟨by simp [World.cell?, hPb], by simp [World.frozen?, hPb]⟩, ⟨h.at_, ?_, ownsRow_setCell_other hown hv _, hv⟩, below_set (grown_below hB (below_join hb hW hB) hg (fun k e => (own_lt2 h.own k e).1)) h.at_ _⟩
  rw [block_set hPb]; simp

open Trie in
/-- A decoder of the first k symbols. -/
def DecT (w : World) (B D : Nat) (l c : Nat → Nat) (k : Nat) : Prop :=
  ∃ v ps cs, Dec w B D v ps.length cs ∧ Tree l c k ps (wayOf cs) ∧ ps.length ≤ 1 + 16 * k ∧ ∀ z ∈ cs, -301 ≤ z ∧ z ≤ 16777216
open Trie in
/-- On the way along the code of one more. -/
def Lay (w0 : World) (B D : Nat) (l c : Nat → Nat) (k j st : Nat) (w : World) : Prop :=
  Below B w0 w ∧ ∃ v ps cs, Dec w B D v ps.length cs ∧ Tree l c k ps (wayOf cs) ∧ ps.length ≤ 1 + 16 * k + j ∧ (∀ z ∈ cs, -301 ≤ z ∧ z ≤ 16777216) ∧ ps[st]? = some (pre (l k) (c k) j) ∧ ∀ j', j' ≤ j → ∃ st' : Nat, ps[st']? = some (pre (l k) (c k) j')
theorem set_bound {cs : List Int} {i : Nat} {z lo hi : Int} (h : ∀ y ∈ cs, lo ≤ y ∧ y ≤ hi) (hz : lo ≤ z ∧ z ≤ hi) : ∀ y ∈ cs.set i z, lo ≤ y ∧ y ≤ hi := by
  intro y hy
  rcases List.mem_or_eq_of_mem_set hy with h1 | rfl
  · exact h y h1
  · exact hz
theorem wayOf_bound {cs : List Int} (h : ∀ z ∈ cs, -301 ≤ z ∧ z ≤ 16777216) (st b : Nat) : -301 ≤ wayOf cs st b ∧ wayOf cs st b ≤ 16777216 := by
  unfold wayOf
  rw [List.getD_eq_getElem?_getD]
  cases hz : cs[st * 2 + b]? with
  | none => simp
  | some z => exact h z (List.mem_of_getElem? hz)

open Trie in
set_option maxRecDepth 100000 in
set_option maxHeartbeats 1600000 in
theorem lay_any (w0 w : World) (B D : Nat) (l c : Nat → Nat) (k N : Nat) (h : DecT w B D l c k) (hb : Below B w0 w) (hB : B ≤ w0.heap.size) (ha : Apart l c N) (hk : k < N) (hN : N ≤ 300) (hl : 1 ≤ l k ∧ l k ≤ 16) (hc : c k < 2 ^ l k) :
    Calls Try.prog 26 #[.pointer (some ⟨D, 0, none⟩), .int .i64 (k : Nat), .int .i64 (c k : Nat), .int .i64 (l k : Nat)] w fun e w' => e = .returned (.tuple #[]) ∧ DecT w' B D l c (k + 1) ∧ Below B w0 w' := by
  have hc16 : c k < 65536 := by
    have := Nat.pow_le_pow_right (show 0 < 2 by omega) hl.2
    omega
  have hst : Lay w0 B D l c k 0 0 w := by
    obtain ⟨v, ps, cs, h1, h2, h3, h4⟩ := h
    have e : pre (l k) (c k) 0 = (0, 0) := by simp [pre, Nat.div_eq_of_lt hc]
    exact ⟨hb, v, ps, cs, h1, h2, h3, h4, by rw [e]; exact h2.root, fun j' hj => ⟨0, by obtain rfl : j' = 0 := (by omega); rw [e]; exact h2.root⟩⟩
  have HST := Lib.hid hst
  have HA := Lib.hid ha
  obtain ⟨L, hL⟩ : ∃ L, L = l k := ⟨_, rfl⟩
  obtain ⟨C, hC⟩ : ∃ C, C = c k := ⟨_, rfl⟩
  have HLC := Lib.hid (And.intro hL hC)
  rw [← hL] at hl hc ⊢
  rw [← hC] at hc hc16 ⊢
  clear h hb hst ha hL hC
  go_enter Try.func26, Try.ntmps26
  go_wp2
  go_loopw [8, 9] (fun sv iv wr => ∃ st j : Nat, j < L ∧ sv = .int .i64 st ∧ iv = .int .i64 ((L - 1 - j : Nat) : Int) ∧ Lay w0 B D l c k j st wr) (fun _ iv _ => (intOf iv).toNat)
  case atStart => exact ⟨0, 0, by omega, rfl, by rw [show ((L - 1 - 0 : Nat) : Int) = (L : Int) - 1 by omega], HST.out⟩
  case round =>
    clear HST
    obtain ⟨st, j, hj, rfl, rfl, hlay⟩ := hrel
    obtain ⟨hb, v, ps, cs, dec, tree, hlen, hbd, hps, hall⟩ := hlay
    have hm0 : 0 < ps.length := (List.getElem?_eq_some_iff.1 tree.root).1
    have hsl : st < ps.length := (List.getElem?_eq_some_iff.1 hps).1
    obtain ⟨g, cap, rfl, hBg, hgD, hgl, hmc, c0, f0, hcell⟩ := dec.open hm0
    have hclen := dec.length
    by_cases hend : j + 1 = L
    · obtain ⟨b, hb1⟩ : ∃ b, b = C % 2 := ⟨_, rfl⟩
      have hb2 : b < 2 := by omega
      obtain ⟨hold, hfr⟩ := hcell st b hsl hb2
      have X := Lib.hid (show DecT (wr.setCell ⟨g, st * 2 + b, none⟩ (.int .i64 (-(k : Int) - 1))) B D l c (k + 1) ∧ Below B w0 (wr.setCell ⟨g, st * 2 + b, none⟩ (.int .i64 (-(k : Int) - 1))) from by
        refine ⟨⟨_, ps, _, dec.set hsl hb2 (-(k : Int) - 1), ?_, by omega, set_bound hbd (by omega)⟩, below_set hb hBg _⟩
        have ej : j = l k - 1 := by have := HLC.out.1; omega
        rw [ej] at hps
        refine tree.close HA.out hk (by have := HLC.out.1; omega) hps (fun j' hj' => hall j' (by have := HLC.out.1; omega)) (fun st' b' hb' => ?_)
        rw [← HLC.out.2, ← hb1]
        exact wayOf_set cs st b st' b' _ hb2 hb' (by rw [hclen]; omega))
      have k1 : bits .and .i64 (C : Int) 1 = (b : Int) := by rw [hb1]; exact i64_odd C (by omega)
      have k2 : bits .xor .i64 (-1) (k : Int) = -(k : Int) - 1 := i64_not _ (by omega)
      have ei : ((L - 1 - j : Nat) : Int) = 0 := by omega
      generalize wayOf cs st b = z at *
      rw [ei]
      clear hcell tree dec hall hps hbd hclen hb1
      go_wp2
      go_end0
      exact ⟨rfl, X.out.1, X.out.2⟩
    · obtain ⟨i, hi⟩ : ∃ i, i = L - 1 - j := ⟨_, rfl⟩
      have hi0 : 0 < i := by omega
      have hi16 : i ≤ 15 := by omega
      obtain ⟨q, hq⟩ : ∃ q, q = C / 2 ^ i := ⟨_, rfl⟩
      obtain ⟨b, hb1⟩ : ∃ b, b = q % 2 := ⟨_, rfl⟩
      have hb2 : b < 2 := by omega
      have hqC : q ≤ C := by rw [hq]; exact Nat.div_le_self _ _
      have hqi : (C : Int) / 2 ^ i = (q : Int) := by rw [hq]; simp
      have k1 : bits .and .i64 (q : Int) 1 = (b : Int) := by rw [hb1]; exact i64_odd q (by omega)
      have ei : ((L - 1 - j : Nat) : Int) = (i : Int) := by rw [hi]
      have ej : L - (j + 1) = i := by omega
      have hbk : b = c k / 2 ^ (l k - (j + 1)) % 2 := by rw [← HLC.out.1, ← HLC.out.2, ej, ← hq, hb1]
      have e2 : ((L - 1 - (j + 1) : Nat) : Int) = (i : Int) - 1 := by omega
      have hjl : j + 1 < l k := by have := HLC.out.1; omega
      obtain ⟨hold, hfr⟩ := hcell st b hsl hb2
      have hwb := wayOf_bound hbd st b
      have hnl := tree.no_leaf HA.out hk hps (by omega)
      rw [← hbk] at hnl
      rw [ei]
      by_cases hw : wayOf cs st b = 0
      · have hm5 : ps.length ≤ 5000 := by omega
        have dec4 := dec.set hsl hb2 (ps.length : Int)
        have hb4 := below_set hb hBg (i := st * 2 + b) (.int .i64 (ps.length : Int))
        have GT := Lib.hid (fun (way' : Nat → Nat → Int) hw' => tree.grow (way' := way') hps hjl hbk hw hw')
        have HALL := Lib.hid hall
        have HBD := Lib.hid hbd
        have HCL := Lib.hid hclen
        have HLE := Lib.hid hlen
        rw [hw] at hold
        have D4 := Lib.hid dec4
        have B4 := Lib.hid hb4
        clear hcell tree dec hall hps hbd hclen hb1 hq hqC hbk hnl hw hwb ei ej hi dec4 hb4 hb hlen
        obtain ⟨w4, hw4⟩ : ∃ w4, w4 = wr.setCell ⟨g, st * 2 + b, none⟩ (.int .i64 (ps.length : Int)) := ⟨_, rfl⟩
        have hs4 : w4.heap.size = wr.heap.size := by rw [hw4]; simp [World.setCell]
        rw [← hw4] at D4 B4
        have HW4 := Lib.hid hw4
        have BW := Lib.hid (show Below w4.heap.size w4 ((w4.alloc (.cells #[.int .i64 0, .int .i64 0] 50)).drew) from below_drew ((Below.refl _ _).alloc (Nat.le_refl _) _))
        have OW := Lib.hid (own_kept2 (w' := (w4.alloc (.cells #[.int .i64 0, .int .i64 0] 50)).drew) D4.out.own (fun q e => BW.out.block q (own_lt2 D4.out.own q e).2))
        have n0 : ((w4.alloc (.cells #[.int .i64 0, .int .i64 0] 50)).drew).cell? ⟨w4.heap.size, 0, none⟩ = some (.int .i64 0) := by
          show (w4.alloc (.cells #[.int .i64 0, .int .i64 0] 50)).cell? ⟨w4.heap.size, 0, none⟩ = _
          rw [World.cell?_alloc_mark]; rfl
        have n1 : ((w4.alloc (.cells #[.int .i64 0, .int .i64 0] 50)).drew).cell? ⟨w4.heap.size, 1, none⟩ = some (.int .i64 0) := by
          show (w4.alloc (.cells #[.int .i64 0, .int .i64 0] 50)).cell? ⟨w4.heap.size, 1, none⟩ = _
          rw [World.cell?_alloc_mark]; rfl
        have hBs : B ≤ ((w4.alloc (.cells #[.int .i64 0, .int .i64 0] 50)).drew).heap.size := by
          have h1 := BW.out.size
          have h2 := D4.out.lt
          have h3 := D4.out.at_
          omega
        have NW := Lib.hid (And.intro n0 (And.intro n1 hBs))
        have HS4 := Lib.hid hs4
        clear n0 n1 hBs hw4 hs4
        go_wp2
        go_still_tail 12, (by kernel_rfl)
        change wpList _ _ _ _ _ wr.drew
        go_wp2_with (at_builtin; go_must (refine wpList_append_pair rfl (.tmp 48) (.tmp 50) rfl B ps.length (.slice (some ⟨g, 0, none⟩) ps.length cap) (cs.set (st * 2 + b) (ps.length : Int)) rfl ?e1 wr.heap.size 1 rfl ?e2 ?e3 (by omega) ?e4 ?e5))
        case e1 => have := OW.out; rw [HW4.out] at this; exact this
        case e2 => have := NW.out.1; rw [HS4.out, HW4.out] at this; exact this
        case e3 => have := NW.out.2.1; rw [HS4.out, HW4.out] at this; exact this
        case e4 => have := NW.out.2.2; rw [HW4.out] at this; exact this
        case e5 =>
          intro aa cap2 w5 hown hg hat
          have hg2 : ((w4.alloc (.cells #[.int .i64 0, .int .i64 0] 50)).drew).grownBy w5 (Value.slice (some ⟨g, 0, none⟩) ps.length cap).ownBlock := by rw [HW4.out]; exact hg
          have hat2 : (Value.slice aa (ps.length + 1) cap2).ownBlock = (Value.slice (some ⟨g, 0, none⟩) ps.length cap).ownBlock ∨ (Value.slice aa (ps.length + 1) cap2).ownBlock = some ((w4.alloc (.cells #[.int .i64 0, .int .i64 0] 50)).drew).heap.size := by
            rw [show ((w4.alloc (.cells #[.int .i64 0, .int .i64 0] 50)).drew).heap.size = w4.heap.size + 1 from Array.size_push _, HS4.out]; exact hat
          obtain ⟨⟨q1, q2⟩, d5, b5⟩ := D4.out.push B4.out hB BW.out hown hg2 hat2
          obtain ⟨g', cap', he, hBg', hgD', hgl', hmc', c5, f5, hcell5⟩ := d5.open (by omega)
          cases he
          obtain ⟨hold5, -⟩ := hcell5 st b (by omega) hb2
          have hsl2 : (cs.set (st * 2 + b) (ps.length : Int)).length = ps.length * 2 := by rw [List.length_set]; exact HCL.out
          have hway : ∀ st' b', b' < 2 → wayOf (cs.set (st * 2 + b) (ps.length : Int) ++ [0, 0]) st' b' = if st' = st ∧ b' = b then (ps.length : Int) else if st' = ps.length then 0 else wayOf cs st' b' := fun st' b' hb' => by
            rw [wayOf_more _ _ _ _ hsl2 hb', wayOf_set _ _ _ _ _ _ hb2 hb' (by rw [HCL.out]; omega)]
            by_cases h1 : st' = st ∧ b' = b
            · rw [if_pos h1, if_pos h1, if_neg (by omega)]
            · rw [if_neg h1, if_neg h1]
          rw [hway st b hb2, if_pos ⟨rfl, rfl⟩] at hold5
          have X := Lib.hid (show Lay w0 B D l c k (j + 1) ps.length (w5.setCell ⟨D, 0, none⟩ (.slice (some ⟨g', 0, none⟩) (ps.length + 1) cap2)) from by
            refine ⟨b5, _, ps ++ [pre (l k) (c k) (j + 1)], _, by rw [List.length_append]; exact d5, GT.out _ hway, ?_, ?_, ?_, fun j' hj' => ?_⟩
            · rw [List.length_append]
              have := HLE.out
              simp only [List.length_cons, List.length_nil]
              omega
            · intro z hz
              rcases List.mem_append.1 hz with h1 | h1
              · exact set_bound HBD.out (by omega) z h1
              · simp only [List.mem_cons, List.not_mem_nil, or_false, or_self] at h1
                omega
            · rw [List.getElem?_append_right (Nat.le_refl _), Nat.sub_self]; rfl
            · rcases Nat.lt_or_ge j' (j + 1) with h1 | h1
              · obtain ⟨st', h2⟩ := HALL.out j' (by omega)
                exact ⟨st', by rw [List.getElem?_append_left (List.getElem?_eq_some_iff.1 h2).1]; exact h2⟩
              · obtain rfl : j' = j + 1 := (by omega)
                exact ⟨ps.length, by rw [List.getElem?_append_right (Nat.le_refl _), Nat.sub_self]; rfl⟩)
          clear hown hg hat hg2 hat2 d5 b5 hcell5 hway hsl2
          go_wp2_with fail
          go_roundw
          case rel => exact ⟨ps.length, j + 1, by omega, rfl, by rw [e2], X.out⟩
          case measure => simp [intOf]; omega
      · obtain ⟨t, ht⟩ := Int.eq_ofNat_of_zero_le hnl
        have ht0 : 0 < t := by omega
        have hdn := tree.down st b t _ _ hps hb2 ht ht0
        have epre : (j + 1, 2 * (pre (l k) (c k) j).2 + b) = pre (l k) (c k) (j + 1) := by
          have hnext := pre_next (L := l k) (C := c k) (j := j) (Nat.le_of_lt hjl)
          rw [← hbk] at hnext
          exact (show pre (l k) (c k) (j + 1) = (j + 1, 2 * (pre (l k) (c k) j).2 + b) from Prod.ext rfl hnext).symm
        have X := Lib.hid (show Lay w0 B D l c k (j + 1) t wr from ⟨hb, _, ps, cs, dec, tree, by omega, hbd, by rw [← epre]; exact hdn, fun j' hj' => by
          rcases Nat.lt_or_ge j' (j + 1) with h1 | h1
          · exact hall j' (by omega)
          · obtain rfl : j' = j + 1 := (by omega)
            exact ⟨t, by rw [← epre]; exact hdn⟩⟩)
        rw [ht] at hold hwb
        have u1 : decide ((t : Int) = 0) = false := decide_eq_false (by omega)
        have u2 : ((t : Int) == 0) = false := by simp; omega
        clear hcell tree dec hall hps hbd hclen hb1 hq hqC hbk hnl hw ht hdn epre ei ej hi
        go_wp2
        go_roundw
        case rel => exact ⟨t, j + 1, by omega, rfl, by rw [e2], X.out⟩
        case measure => simp [intOf]; omega
end Go.Proofs.Ytoiknbbimgeihaa
