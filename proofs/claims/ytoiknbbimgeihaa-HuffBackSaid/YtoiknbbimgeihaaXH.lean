/- The walk of merged. -/
import Derived.Test.YtoiknbbimgeihaaXG
namespace Go.Proofs.Ytoiknbbimgeihaa
open Go.RowKit
set_option linter.unusedVariables false

theorem info56 : (Try.prog.info? 56).map (fun i => (i.zero, i.size, i.bytes)) = some (some (.agg #[.slice none 0 0, .slice none 0 0]), 2, 48) := by kernel_rfl

def cntsTo (ps qs : List Nat) (t : Nat) : List Nat := (List.range (t + 1)).map (Huff.cnt ps qs)
theorem cntsTo_succ (ps qs : List Nat) (t : Nat) : cntsTo ps qs (t + 1) = cntsTo ps qs t ++ [Huff.cnt ps qs (t + 1)] := by
  unfold cntsTo; rw [List.range_succ, List.map_append]; rfl
theorem cntsTo_length (ps qs : List Nat) (t : Nat) : (cntsTo ps qs t).length = t + 1 := by simp [cntsTo]

theorem own_form {w : World} {B n : Nat} {v : Value} {xs : List Value} (h : w.ownsRow B 3 1 v n xs) : ∃ aa cap, v = .slice aa n cap := by
  rcases h.2 with ⟨e, e2⟩ | ⟨g, cap, _, e, _⟩
  · exact ⟨none, 0, by rw [e, e2]⟩
  · exact ⟨_, _, e⟩
theorem own_ints2 {w w' : World} {B n c : Nat} {aa : Option Addr} {us : List Nat} (h : w.ownsRow B 3 1 (.slice aa n c) n (vals (natZ us))) (hk : ∀ k, B ≤ k → w'.heap[k]? = w.heap[k]?) (hb : ∀ u ∈ us, u ≤ 9223372036854775807) : Ints w' aa n (natZ us) ∧ ∀ x, aa = some x → B ≤ x.block := by
  refine ⟨(own_ints (own_kept h (fun k e => hk k (own_lt h k e).1)) (natZ_le hb)).1, fun x hx => (own_lt h x.block (by rw [hx]; rfl)).1⟩
theorem mix_le {ps qs : List Nat} {B : Nat} (hp : ∀ p ∈ ps, p ≤ B) (hq : ∀ p ∈ qs, p ≤ B) : ∀ p ∈ Huff.mix id ps qs, p ≤ B := by
  intro p h
  have := (Huff.mix_perm id ps qs).subset h
  rcases List.mem_append.1 this with h1 | h1
  · exact hp p h1
  · exact hq p h1
theorem cnts_le (ps qs : List Nat) (t : Nat) (ht : t ≤ ps.length + qs.length) : ∀ p ∈ cntsTo ps qs t, p ≤ ps.length := by
  intro p h
  simp only [cntsTo, List.mem_map, List.mem_range] at h
  obtain ⟨u, hu, rfl⟩ := h
  have := (Huff.mix_parts id ps qs u (by omega)).1
  simpa using this
/-- Within the loop. -/
def Mid (w : World) (ps qs : List Nat) (i j : Nat) (wr : World) : Prop :=
  i + j ≤ ps.length + qs.length ∧ i = Huff.cnt ps qs (i + j) ∧ ∃ vx vy, Two wr (w.heap.size + 1) (w.heap.size + 1 + 1) vx vy (natZ ((Huff.mix id ps qs).take (i + j))) (natZ (cntsTo ps qs (i + j))) ∧ Below (w.heap.size + 1) (w.alloc (.cells #[.slice none 0 0, .slice none 0 0] 56)) wr
theorem mid_start (w : World) (ps qs : List Nat) : Mid w ps qs 0 0 (((w.alloc (.cells #[.slice none 0 0, .slice none 0 0] 56)).alloc (.cells #[.int .i64 0] 3)).alloc (.cells #[.slice none 0 0, .slice (some ⟨w.heap.size + 1, 0, none⟩) 1 1] 56)) := by
  have h1 : (w.alloc (.cells #[.slice none 0 0, .slice none 0 0] 56)).heap.size = w.heap.size + 1 := Array.size_push _
  have h2 : ((w.alloc (.cells #[.slice none 0 0, .slice none 0 0] 56)).alloc (.cells #[.int .i64 0] 3)).heap.size = w.heap.size + 1 + 1 := by rw [← h1]; exact Array.size_push _
  refine ⟨Nat.zero_le _, (Huff.cnt_zero _ _).symm, .slice none 0 0, .slice (some ⟨w.heap.size + 1, 0, none⟩) 1 1, ⟨Nat.le_succ _, ?_, ?_, ⟨?_, Or.inr ⟨w.heap.size + 1, 1, #[.int .i64 0], rfl, Nat.le_refl _, ?_, Nat.le_refl _, by unfold maxLen; omega, rfl, ?_⟩⟩, ?_, ?_, ?_⟩, ?_⟩
  · rw [← h2]; exact heap_alloc_new _ _
  · rw [show (Huff.mix id ps qs).take (0 + 0) = [] from rfl]
    exact World.ownsRow_nil _ _ _ _
  · rw [vals_length]; simp
  · exact (Below.heap_alloc _ _ _ (by rw [h2]; omega)).trans (by rw [← h1]; exact heap_alloc_new _ _)
  · simp [cntsTo, natZ, vals, Huff.cnt_zero]
  · simp [Value.ownBlock]
  · simp [Value.ownBlock]
  · simp [Value.ownBlock]
  · exact ((Below.refl _ _).alloc (by rw [h1]; exact Nat.le_refl _) _).alloc (by rw [h2]; omega) _

def MergeSay (w : World) (ps qs : List Nat) (e : Ending) (w' : World) : Prop :=
  ∃ ax cx ay cy, e = .returned (.agg #[.slice ax (ps.length + qs.length) cx, .slice ay (ps.length + qs.length + 1) cy]) ∧
    Ints w' ax (ps.length + qs.length) (natZ (Huff.mix id ps qs)) ∧ Ints w' ay (ps.length + qs.length + 1) (natZ (cntsTo ps qs (ps.length + qs.length))) ∧
    (∀ x, ax = some x → w.heap.size ≤ x.block) ∧ (∀ x, ay = some x → w.heap.size ≤ x.block) ∧ Below w.heap.size w w'

theorem mid_next {w : World} {ps qs : List Nat} {i j i' j' : Nat} {xs ys : List Int} {z : Nat} (hij : i' + j' = i + j + 1) (hlt : i + j < ps.length + qs.length)
    (hxs : xs = natZ ((Huff.mix id ps qs).take (i + j))) (hys : ys = natZ (cntsTo ps qs (i + j))) (hz : (Huff.mix id ps qs)[i + j]? = some z) (hc : Huff.cnt ps qs (i + j + 1) = i') (zi : Int) (hzi : zi = (i' : Int))
    (w3 : World) (vx vy : Value) (h : Two w3 (w.heap.size + 1) (w.heap.size + 1 + 1) vx vy (xs ++ [(z : Int)]) (ys ++ [zi])) (hb : Below (w.heap.size + 1) (w.alloc (.cells #[.slice none 0 0, .slice none 0 0] 56)) w3) : Mid w ps qs i' j' w3 := by
  refine ⟨by omega, by rw [hij, hc], vx, vy, ?_, hb⟩
  rw [hij, take_more hz, natZ_append, cntsTo_succ, natZ_append, hc, ← hxs, ← hys]
  subst hzi
  exact h

set_option maxRecDepth 100000 in
set_option maxHeartbeats 1600000 in
theorem merged_any (w : World) (a : Option Addr) (n c : Nat) (ps : List Nat) (b : Option Addr) (m d : Nat) (qs : List Nat) (h : Ints w a n (natZ ps)) (hq : Ints w b m (natZ qs)) (hn : n ≤ 1048576) (hm : m ≤ 1048576)
    (hps : ∀ p ∈ ps, p ≤ 9223372036854775807) (hqs : ∀ p ∈ qs, p ≤ 9223372036854775807) :
    Calls Try.prog 31 #[.slice a n c, .slice b m d] w (MergeSay w ps qs) := by
  have HZ := Lib.hid h
  have HQ := Lib.hid hq
  have HPS := Lib.hid (And.intro hps hqs)
  clear h hq hps hqs
  go_enter Try.func31, Try.ntmps31
  go_wp2
  have HST := Lib.hid (mid_start w ps qs)
  have hln : ps.length = n := by have := HZ.out.1; rwa [natZ_length] at this
  have hlm : qs.length = m := by have := HQ.out.1; rwa [natZ_length] at this
  go_loopw [6, 7] (fun vi vj wr => ∃ i j : Nat, vi = .int .i64 i ∧ vj = .int .i64 j ∧ Mid w ps qs i j wr) (fun vi vj _ => n + m - ((intOf vi).toNat + (intOf vj).toNat))
  case atStart => exact ⟨0, 0, rfl, rfl, HST.out⟩
  case round =>
    clear HST
    obtain ⟨i, j, rfl, rfl, ht, hi, vx, vy, two, hb⟩ := hrel
    by_cases hlt : i + j < ps.length + qs.length
    · obtain ⟨-, hin, hjm, nA, nB⟩ := Huff.mix_next ps qs (i + j) hlt
      rw [← hi] at hin hjm nA nB
      rw [show i + j - i = j by omega] at hjm nA nB
      rw [hln] at hin nA nB
      rw [hlm] at hjm nA nB
      obtain ⟨c0, c1, f0, f1⟩ := two.cells
      have hr1 : (w.alloc (.cells #[.slice none 0 0, .slice none 0 0] 56)).heap.size = w.heap.size + 1 := Array.size_push _
      have hbw : Below w.heap.size w wr := below_join ((Below.refl w.heap.size w).alloc (Nat.le_refl _) (.cells #[.slice none 0 0, .slice none 0 0] 56)) (by rw [hr1]; exact hb) (Nat.le_refl _)
      have HZ1 := Lib.hid (HZ.out.below hbw)
      have HQ1 := Lib.hid (HQ.out.below hbw)
      have hDl := two.lt
      obtain ⟨xs, hxs⟩ : ∃ xs, xs = natZ ((Huff.mix id ps qs).take (i + j)) := ⟨_, rfl⟩
      obtain ⟨ys, hys⟩ : ∃ ys, ys = natZ (cntsTo ps qs (i + j)) := ⟨_, rfl⟩
      have hxl : xs.length ≤ 33554432 := by rw [hxs, natZ_length, List.length_take]; omega
      have hyl : ys.length ≤ 33554432 := by rw [hys, natZ_length, cntsTo_length]; omega
      rw [← hxs, ← hys] at two
      have NX := Lib.hid (fun (i' j' z : Nat) (hij : i' + j' = i + j + 1) (hz : (Huff.mix id ps qs)[i + j]? = some z) (hc : Huff.cnt ps qs (i + j + 1) = i') (zi : Int) (hzi : zi = (i' : Int)) => mid_next (w := w) hij hlt hxs hys hz hc zi hzi)
      have HB := Lib.hid hb
      have TW := Lib.hid two
      clear hxs hys hr1 hbw hi hb two ht
      by_cases hA : j = m ∨ (i < n ∧ ps.getD i 0 ≤ qs.getD j 0)
      · obtain ⟨hi1, hc1, hm1⟩ := nA hA
        obtain ⟨b0, off0, p, rfl, hp, hpb, hcp⟩ := HZ1.out.at hi1
        have hpe := natZ_get (us := ps) (i := i) (by omega)
        rw [hpe] at hp
        cases hp
        obtain ⟨z, hz⟩ : ∃ z, z = ps.getD i 0 := ⟨_, rfl⟩
        rw [← hz] at hcp hm1 hpb hA
        have NX := Lib.hid (NX.out (i + 1) j z (by omega) hm1 hc1 ((i : Int) + 1) (by omega))
        have hzb : z ≤ 9223372036854775807 := by omega
        have HIV := Lib.hid (show -9223372036854775808 ≤ (i : Int) + 1 ∧ (i : Int) + 1 ≤ 9223372036854775807 by omega)
        have HCP := Lib.hid hcp
        clear hpe hc1 hm1 hz nA nB c0 c1 f0 f1
        by_cases hjm1 : j = m
        · subst hjm1
          clear hA
          go_wp2
          go_quiet (fail)
          clear hcp
          go_wp2
          obtain ⟨wq, hwq⟩ : ∃ wq, wq = wr.drewN nq := ⟨_, rfl⟩
          have hqk : ∀ k, k < wr.heap.size → wq.heap[k]? = wr.heap[k]? := fun k _ => by rw [hwq]; rfl
          have hqs : wq.heap.size = wr.heap.size := by rw [hwq]; rfl
          have TQ := Lib.hid (TW.out.later hqk)
          have HBQ := Lib.hid (show Below (w.heap.size + 1) (w.alloc (.cells #[.slice none 0 0, .slice none 0 0] 56)) wq from by rw [hwq]; exact ⟨HB.out.os, HB.out.tape, HB.out.output, HB.out.size, HB.out.block⟩)
          have hcq : wq.cell? ⟨b0, off0 + i, none⟩ = some (.int .i64 z) := (World.cell?_of_block (w := wr) (hqk _ (World.block_lt_of_cell? wr (⟨b0, off0 + i, none⟩ : Addr) HCP.out))).trans HCP.out
          obtain ⟨c0, c1, f0, f1⟩ := TQ.out.cells
          have hbb : w.heap.size + 1 ≤ (w.alloc (.cells #[.slice none 0 0, .slice none 0 0] 56)).heap.size := by
            rw [show (w.alloc (.cells #[.slice none 0 0, .slice none 0 0] 56)).heap.size = w.heap.size + 1 from Array.size_push _]; exact Nat.le_refl _
          have G0 := Lib.hid (TQ.out.grow0 HBQ.out hbb (X := (wq.alloc (.cells #[.int .i64 (z : Int)] 3)).drew) (below_drew ((Below.refl _ _).alloc (Nat.le_refl _) _)) z)
          have ON := Lib.hid (show Ints ((wq.alloc (.cells #[.int .i64 (z : Int)] 3)).drew) (some ⟨wq.heap.size, 0, none⟩) 1 [(z : Int)] from one_ints wq z (by omega))
          have c0a : (wq.alloc (.cells #[.int .i64 (z : Int)] 3)).cell? ⟨w.heap.size + 1 + 1, 0, none⟩ = some vx := (World.cell?_of_block (w := wq) (Below.heap_alloc _ _ _ TQ.out.lt)).trans c0
          have hsz : w.heap.size + 1 ≤ ((wq.alloc (.cells #[.int .i64 (z : Int)] 3)).drew).heap.size := by
            rw [show ((wq.alloc (.cells #[.int .i64 (z : Int)] 3)).drew).heap.size = wq.heap.size + 1 from Array.size_push _]; omega
          have HBB := Lib.hid hbb
          rw [← hwq]
          clear hqk hqs hwq hbb
          go_wp2
          go_region_law (refine step_append_ints (by rfl) (.tmp 42) (.tmp 47) (by rfl) (w.heap.size + 1) xs.length vx xs (by rfl) G0.out.1 (some ⟨wq.heap.size, 0, none⟩) 1 1 [(z : Int)] (by rfl) ON.out (by intro e; cases e) hxl (by omega) hsz ?_; intro aa cap w1 hown1 hgrow1 hat1; have q1 := (G0.out.2 _ _ _ hown1 hgrow1 hat1).1)
          all_goals
            obtain ⟨-, t2, b2⟩ := G0.out.2 _ _ _ hown1 hgrow1 hat1
            have T2 := Lib.hid t2
            have B2 := Lib.hid b2
            clear t2 b2 hown1 hgrow1 hat1 q1 c0 c1 f0 f1 c0a hcq hsz
            generalize w1.setCell ⟨w.heap.size + 1 + 1, 0, none⟩ (.slice aa (xs.length + 1) cap) = w2 at *
            obtain ⟨d0, d1, g0, g1⟩ := T2.out.cells
            have G1 := Lib.hid (T2.out.grow1 B2.out HBB.out (X := w2.alloc (.cells #[.int .i64 ((i : Int) + 1)] 3)) ((Below.refl _ _).alloc (Nat.le_refl _) _) ((i : Int) + 1))
            have ON2 := Lib.hid (one_ints w2 ((i : Int) + 1) HIV.out)
            have d1a : (w2.alloc (.cells #[.int .i64 ((i : Int) + 1)] 3)).cell? ⟨w.heap.size + 1 + 1, 1, none⟩ = some vy := (World.cell?_of_block (w := w2) (Below.heap_alloc _ _ _ T2.out.lt)).trans d1
            have hs2 : w.heap.size + 1 ≤ (w2.alloc (.cells #[.int .i64 ((i : Int) + 1)] 3)).heap.size := by
              have := T2.out.lt
              rw [show (w2.alloc (.cells #[.int .i64 ((i : Int) + 1)] 3)).heap.size = w2.heap.size + 1 from Array.size_push _]; exact Nat.le_trans (Nat.le_succ _) (Nat.le_of_lt (Nat.lt_succ_of_lt this))
            go_wp2_with (at_builtin; go_must (refine wpList_append_ints rfl (.tmp 64) (.tmp 66) rfl (w.heap.size + 1) ys.length vy ys rfl ?e1 (some ⟨w2.heap.size, 0, none⟩) 1 1 [((i : Int) + 1)] rfl ?e2 (by intro e; cases e) hyl (by decide) ?e3 ?e4))
            case e1 => exact G1.out.1
            case e2 => exact ON2.out
            case e3 => exact hs2
            case e4 =>
              intro aa2 cap2 w3 hown hg hat
              have hat2 : (Value.slice aa2 (ys.length + 1) cap2).ownBlock = vy.ownBlock ∨ (Value.slice aa2 (ys.length + 1) cap2).ownBlock = some (w2.alloc (.cells #[.int .i64 ((i : Int) + 1)] 3)).heap.size := by
                rw [show (w2.alloc (.cells #[.int .i64 ((i : Int) + 1)] 3)).heap.size = w2.heap.size + 1 from Array.size_push _]; exact hat
              obtain ⟨⟨q1, q2⟩, t3, b3⟩ := G1.out.2 _ _ _ hown hg hat2
              have X := Lib.hid (NX.out _ _ _ t3 b3)
              clear hown hg hat hat2 t3 b3 d0 d1 g0 g1 d1a hs2
              go_wp2_with fail
              go_roundw
              case rel => exact ⟨i + 1, j, by go_num, rfl, X.out⟩
              case measure => simp [intOf]; omega
        · have hle : z ≤ qs.getD j 0 := by
            rcases hA with h | h
            · exact absurd h hjm1
            · exact h.2
          have hj1 : j < m := by omega
          obtain ⟨b1, off1, q, rfl, hq, hqb, hcq1⟩ := HQ1.out.at hj1
          have hqe := natZ_get (us := qs) (i := j) (by omega)
          rw [hqe] at hq
          cases hq
          obtain ⟨y, hy⟩ : ∃ y, y = qs.getD j 0 := ⟨_, rfl⟩
          rw [← hy] at hcq1 hqb hle
          have e0 : ((j : Int) == (m : Int)) = false := by simp; omega
          have e1 : decide ((j : Int) = (m : Int)) = false := decide_eq_false (by omega)
          have e2 : decide ((z : Int) ≤ (y : Int)) = true := decide_eq_true (by omega)
          clear hA hqe hy
          go_wp2
          go_quiet (fail)
          clear hcp hcq1 e0 e1 e2
          go_wp2
          obtain ⟨wq, hwq⟩ : ∃ wq, wq = wr.drewN nq := ⟨_, rfl⟩
          have hqk : ∀ k, k < wr.heap.size → wq.heap[k]? = wr.heap[k]? := fun k _ => by rw [hwq]; rfl
          have hqs : wq.heap.size = wr.heap.size := by rw [hwq]; rfl
          have TQ := Lib.hid (TW.out.later hqk)
          have HBQ := Lib.hid (show Below (w.heap.size + 1) (w.alloc (.cells #[.slice none 0 0, .slice none 0 0] 56)) wq from by rw [hwq]; exact ⟨HB.out.os, HB.out.tape, HB.out.output, HB.out.size, HB.out.block⟩)
          have hcq : wq.cell? ⟨b0, off0 + i, none⟩ = some (.int .i64 z) := (World.cell?_of_block (w := wr) (hqk _ (World.block_lt_of_cell? wr (⟨b0, off0 + i, none⟩ : Addr) HCP.out))).trans HCP.out
          obtain ⟨c0, c1, f0, f1⟩ := TQ.out.cells
          have hbb : w.heap.size + 1 ≤ (w.alloc (.cells #[.slice none 0 0, .slice none 0 0] 56)).heap.size := by
            rw [show (w.alloc (.cells #[.slice none 0 0, .slice none 0 0] 56)).heap.size = w.heap.size + 1 from Array.size_push _]; exact Nat.le_refl _
          have G0 := Lib.hid (TQ.out.grow0 HBQ.out hbb (X := (wq.alloc (.cells #[.int .i64 (z : Int)] 3)).drew) (below_drew ((Below.refl _ _).alloc (Nat.le_refl _) _)) z)
          have ON := Lib.hid (show Ints ((wq.alloc (.cells #[.int .i64 (z : Int)] 3)).drew) (some ⟨wq.heap.size, 0, none⟩) 1 [(z : Int)] from one_ints wq z (by omega))
          have c0a : (wq.alloc (.cells #[.int .i64 (z : Int)] 3)).cell? ⟨w.heap.size + 1 + 1, 0, none⟩ = some vx := (World.cell?_of_block (w := wq) (Below.heap_alloc _ _ _ TQ.out.lt)).trans c0
          have hsz : w.heap.size + 1 ≤ ((wq.alloc (.cells #[.int .i64 (z : Int)] 3)).drew).heap.size := by
            rw [show ((wq.alloc (.cells #[.int .i64 (z : Int)] 3)).drew).heap.size = wq.heap.size + 1 from Array.size_push _]; omega
          have HBB := Lib.hid hbb
          rw [← hwq]
          clear hqk hqs hwq hbb
          go_wp2
          go_region_law (refine step_append_ints (by rfl) (.tmp 42) (.tmp 47) (by rfl) (w.heap.size + 1) xs.length vx xs (by rfl) G0.out.1 (some ⟨wq.heap.size, 0, none⟩) 1 1 [(z : Int)] (by rfl) ON.out (by intro e; cases e) hxl (by omega) hsz ?_; intro aa cap w1 hown1 hgrow1 hat1; have q1 := (G0.out.2 _ _ _ hown1 hgrow1 hat1).1)
          all_goals
            obtain ⟨-, t2, b2⟩ := G0.out.2 _ _ _ hown1 hgrow1 hat1
            have T2 := Lib.hid t2
            have B2 := Lib.hid b2
            clear t2 b2 hown1 hgrow1 hat1 q1 c0 c1 f0 f1 c0a hcq hsz
            generalize w1.setCell ⟨w.heap.size + 1 + 1, 0, none⟩ (.slice aa (xs.length + 1) cap) = w2 at *
            obtain ⟨d0, d1, g0, g1⟩ := T2.out.cells
            have G1 := Lib.hid (T2.out.grow1 B2.out HBB.out (X := w2.alloc (.cells #[.int .i64 ((i : Int) + 1)] 3)) ((Below.refl _ _).alloc (Nat.le_refl _) _) ((i : Int) + 1))
            have ON2 := Lib.hid (one_ints w2 ((i : Int) + 1) HIV.out)
            have d1a : (w2.alloc (.cells #[.int .i64 ((i : Int) + 1)] 3)).cell? ⟨w.heap.size + 1 + 1, 1, none⟩ = some vy := (World.cell?_of_block (w := w2) (Below.heap_alloc _ _ _ T2.out.lt)).trans d1
            have hs2 : w.heap.size + 1 ≤ (w2.alloc (.cells #[.int .i64 ((i : Int) + 1)] 3)).heap.size := by
              have := T2.out.lt
              rw [show (w2.alloc (.cells #[.int .i64 ((i : Int) + 1)] 3)).heap.size = w2.heap.size + 1 from Array.size_push _]; exact Nat.le_trans (Nat.le_succ _) (Nat.le_of_lt (Nat.lt_succ_of_lt this))
            go_wp2_with (at_builtin; go_must (refine wpList_append_ints rfl (.tmp 64) (.tmp 66) rfl (w.heap.size + 1) ys.length vy ys rfl ?e1 (some ⟨w2.heap.size, 0, none⟩) 1 1 [((i : Int) + 1)] rfl ?e2 (by intro e; cases e) hyl (by decide) ?e3 ?e4))
            case e1 => exact G1.out.1
            case e2 => exact ON2.out
            case e3 => exact hs2
            case e4 =>
              intro aa2 cap2 w3 hown hg hat
              have hat2 : (Value.slice aa2 (ys.length + 1) cap2).ownBlock = vy.ownBlock ∨ (Value.slice aa2 (ys.length + 1) cap2).ownBlock = some (w2.alloc (.cells #[.int .i64 ((i : Int) + 1)] 3)).heap.size := by
                rw [show (w2.alloc (.cells #[.int .i64 ((i : Int) + 1)] 3)).heap.size = w2.heap.size + 1 from Array.size_push _]; exact hat
              obtain ⟨⟨q1, q2⟩, t3, b3⟩ := G1.out.2 _ _ _ hown hg hat2
              have X := Lib.hid (NX.out _ _ _ t3 b3)
              clear hown hg hat hat2 t3 b3 d0 d1 g0 g1 d1a hs2
              go_wp2_with fail
              go_roundw
              case rel => exact ⟨i + 1, j, by go_num, rfl, X.out⟩
              case measure => simp [intOf]; omega
      · obtain ⟨hj1, hc1, hm1⟩ := nB hA
        obtain ⟨b0, off0, p, rfl, hp, hpb, hcp⟩ := HQ1.out.at hj1
        have hpe := natZ_get (us := qs) (i := j) (by omega)
        rw [hpe] at hp
        cases hp
        obtain ⟨z, hz⟩ : ∃ z, z = qs.getD j 0 := ⟨_, rfl⟩
        rw [← hz] at hcp hm1 hpb hA
        have NX := Lib.hid (NX.out i (j + 1) z (by omega) hm1 hc1 (i : Int) rfl)
        have hzb : z ≤ 9223372036854775807 := by omega
        have HIV := Lib.hid (show -9223372036854775808 ≤ (i : Int) ∧ (i : Int) ≤ 9223372036854775807 by omega)
        have HCP := Lib.hid hcp
        have e0 : ((j : Int) == (m : Int)) = false := by simp; omega
        have e1 : decide ((j : Int) = (m : Int)) = false := decide_eq_false (by omega)
        clear hpe hc1 hm1 hz nA nB c0 c1 f0 f1
        by_cases hin1 : i = n
        · subst hin1
          clear hA
          go_wp2
          go_quiet (fail)
          clear hcp e0 e1
          go_wp2
          obtain ⟨wq, hwq⟩ : ∃ wq, wq = wr.drewN nq := ⟨_, rfl⟩
          have hqk : ∀ k, k < wr.heap.size → wq.heap[k]? = wr.heap[k]? := fun k _ => by rw [hwq]; rfl
          have hqs : wq.heap.size = wr.heap.size := by rw [hwq]; rfl
          have TQ := Lib.hid (TW.out.later hqk)
          have HBQ := Lib.hid (show Below (w.heap.size + 1) (w.alloc (.cells #[.slice none 0 0, .slice none 0 0] 56)) wq from by rw [hwq]; exact ⟨HB.out.os, HB.out.tape, HB.out.output, HB.out.size, HB.out.block⟩)
          have hcq : wq.cell? ⟨b0, off0 + j, none⟩ = some (.int .i64 z) := (World.cell?_of_block (w := wr) (hqk _ (World.block_lt_of_cell? wr (⟨b0, off0 + j, none⟩ : Addr) HCP.out))).trans HCP.out
          obtain ⟨c0, c1, f0, f1⟩ := TQ.out.cells
          have hbb : w.heap.size + 1 ≤ (w.alloc (.cells #[.slice none 0 0, .slice none 0 0] 56)).heap.size := by
            rw [show (w.alloc (.cells #[.slice none 0 0, .slice none 0 0] 56)).heap.size = w.heap.size + 1 from Array.size_push _]; exact Nat.le_refl _
          have G0 := Lib.hid (TQ.out.grow0 HBQ.out hbb (X := (wq.alloc (.cells #[.int .i64 (z : Int)] 3)).drew) (below_drew ((Below.refl _ _).alloc (Nat.le_refl _) _)) z)
          have ON := Lib.hid (show Ints ((wq.alloc (.cells #[.int .i64 (z : Int)] 3)).drew) (some ⟨wq.heap.size, 0, none⟩) 1 [(z : Int)] from one_ints wq z (by omega))
          have c0a : (wq.alloc (.cells #[.int .i64 (z : Int)] 3)).cell? ⟨w.heap.size + 1 + 1, 0, none⟩ = some vx := (World.cell?_of_block (w := wq) (Below.heap_alloc _ _ _ TQ.out.lt)).trans c0
          have hsz : w.heap.size + 1 ≤ ((wq.alloc (.cells #[.int .i64 (z : Int)] 3)).drew).heap.size := by
            rw [show ((wq.alloc (.cells #[.int .i64 (z : Int)] 3)).drew).heap.size = wq.heap.size + 1 from Array.size_push _]; omega
          have HBB := Lib.hid hbb
          rw [← hwq]
          clear hqk hqs hwq hbb
          go_wp2
          go_region_law (refine step_append_ints (by rfl) (.tmp 53) (.tmp 58) (by rfl) (w.heap.size + 1) xs.length vx xs (by rfl) G0.out.1 (some ⟨wq.heap.size, 0, none⟩) 1 1 [(z : Int)] (by rfl) ON.out (by intro e; cases e) hxl (by omega) hsz ?_; intro aa cap w1 hown1 hgrow1 hat1; have q1 := (G0.out.2 _ _ _ hown1 hgrow1 hat1).1)
          all_goals
            obtain ⟨-, t2, b2⟩ := G0.out.2 _ _ _ hown1 hgrow1 hat1
            have T2 := Lib.hid t2
            have B2 := Lib.hid b2
            clear t2 b2 hown1 hgrow1 hat1 q1 c0 c1 f0 f1 c0a hcq hsz
            generalize w1.setCell ⟨w.heap.size + 1 + 1, 0, none⟩ (.slice aa (xs.length + 1) cap) = w2 at *
            obtain ⟨d0, d1, g0, g1⟩ := T2.out.cells
            have G1 := Lib.hid (T2.out.grow1 B2.out HBB.out (X := w2.alloc (.cells #[.int .i64 ((i : Int))] 3)) ((Below.refl _ _).alloc (Nat.le_refl _) _) ((i : Int)))
            have ON2 := Lib.hid (one_ints w2 ((i : Int)) HIV.out)
            have d1a : (w2.alloc (.cells #[.int .i64 ((i : Int))] 3)).cell? ⟨w.heap.size + 1 + 1, 1, none⟩ = some vy := (World.cell?_of_block (w := w2) (Below.heap_alloc _ _ _ T2.out.lt)).trans d1
            have hs2 : w.heap.size + 1 ≤ (w2.alloc (.cells #[.int .i64 ((i : Int))] 3)).heap.size := by
              have := T2.out.lt
              rw [show (w2.alloc (.cells #[.int .i64 ((i : Int))] 3)).heap.size = w2.heap.size + 1 from Array.size_push _]; exact Nat.le_trans (Nat.le_succ _) (Nat.le_of_lt (Nat.lt_succ_of_lt this))
            go_wp2_with (at_builtin; go_must (refine wpList_append_ints rfl (.tmp 64) (.tmp 66) rfl (w.heap.size + 1) ys.length vy ys rfl ?e1 (some ⟨w2.heap.size, 0, none⟩) 1 1 [((i : Int))] rfl ?e2 (by intro e; cases e) hyl (by decide) ?e3 ?e4))
            case e1 => exact G1.out.1
            case e2 => exact ON2.out
            case e3 => exact hs2
            case e4 =>
              intro aa2 cap2 w3 hown hg hat
              have hat2 : (Value.slice aa2 (ys.length + 1) cap2).ownBlock = vy.ownBlock ∨ (Value.slice aa2 (ys.length + 1) cap2).ownBlock = some (w2.alloc (.cells #[.int .i64 ((i : Int))] 3)).heap.size := by
                rw [show (w2.alloc (.cells #[.int .i64 ((i : Int))] 3)).heap.size = w2.heap.size + 1 from Array.size_push _]; exact hat
              obtain ⟨⟨q1, q2⟩, t3, b3⟩ := G1.out.2 _ _ _ hown hg hat2
              have X := Lib.hid (NX.out _ _ _ t3 b3)
              clear hown hg hat hat2 t3 b3 d0 d1 g0 g1 d1a hs2
              go_wp2_with fail
              go_roundw
              case rel => exact ⟨i, j + 1, rfl, by go_num, X.out⟩
              case measure => simp [intOf]; omega
        · have hi1 : i < n := by omega
          have hle : ¬ ps.getD i 0 ≤ z := fun h => hA (Or.inr ⟨hi1, h⟩)
          obtain ⟨b1, off1, q, rfl, hq, hqb, hcq1⟩ := HZ1.out.at hi1
          have hqe := natZ_get (us := ps) (i := i) (by omega)
          rw [hqe] at hq
          cases hq
          obtain ⟨y, hy⟩ : ∃ y, y = ps.getD i 0 := ⟨_, rfl⟩
          rw [← hy] at hcq1 hqb hle
          have e2 : decide ((y : Int) ≤ (z : Int)) = false := decide_eq_false (by omega)
          clear hA hqe hy
          go_wp2
          go_quiet (fail)
          clear hcp hcq1 e0 e1 e2
          go_wp2
          obtain ⟨wq, hwq⟩ : ∃ wq, wq = wr.drewN nq := ⟨_, rfl⟩
          have hqk : ∀ k, k < wr.heap.size → wq.heap[k]? = wr.heap[k]? := fun k _ => by rw [hwq]; rfl
          have hqs : wq.heap.size = wr.heap.size := by rw [hwq]; rfl
          have TQ := Lib.hid (TW.out.later hqk)
          have HBQ := Lib.hid (show Below (w.heap.size + 1) (w.alloc (.cells #[.slice none 0 0, .slice none 0 0] 56)) wq from by rw [hwq]; exact ⟨HB.out.os, HB.out.tape, HB.out.output, HB.out.size, HB.out.block⟩)
          have hcq : wq.cell? ⟨b0, off0 + j, none⟩ = some (.int .i64 z) := (World.cell?_of_block (w := wr) (hqk _ (World.block_lt_of_cell? wr (⟨b0, off0 + j, none⟩ : Addr) HCP.out))).trans HCP.out
          obtain ⟨c0, c1, f0, f1⟩ := TQ.out.cells
          have hbb : w.heap.size + 1 ≤ (w.alloc (.cells #[.slice none 0 0, .slice none 0 0] 56)).heap.size := by
            rw [show (w.alloc (.cells #[.slice none 0 0, .slice none 0 0] 56)).heap.size = w.heap.size + 1 from Array.size_push _]; exact Nat.le_refl _
          have G0 := Lib.hid (TQ.out.grow0 HBQ.out hbb (X := (wq.alloc (.cells #[.int .i64 (z : Int)] 3)).drew) (below_drew ((Below.refl _ _).alloc (Nat.le_refl _) _)) z)
          have ON := Lib.hid (show Ints ((wq.alloc (.cells #[.int .i64 (z : Int)] 3)).drew) (some ⟨wq.heap.size, 0, none⟩) 1 [(z : Int)] from one_ints wq z (by omega))
          have c0a : (wq.alloc (.cells #[.int .i64 (z : Int)] 3)).cell? ⟨w.heap.size + 1 + 1, 0, none⟩ = some vx := (World.cell?_of_block (w := wq) (Below.heap_alloc _ _ _ TQ.out.lt)).trans c0
          have hsz : w.heap.size + 1 ≤ ((wq.alloc (.cells #[.int .i64 (z : Int)] 3)).drew).heap.size := by
            rw [show ((wq.alloc (.cells #[.int .i64 (z : Int)] 3)).drew).heap.size = wq.heap.size + 1 from Array.size_push _]; omega
          have HBB := Lib.hid hbb
          rw [← hwq]
          clear hqk hqs hwq hbb
          go_wp2
          go_region_law (refine step_append_ints (by rfl) (.tmp 53) (.tmp 58) (by rfl) (w.heap.size + 1) xs.length vx xs (by rfl) G0.out.1 (some ⟨wq.heap.size, 0, none⟩) 1 1 [(z : Int)] (by rfl) ON.out (by intro e; cases e) hxl (by omega) hsz ?_; intro aa cap w1 hown1 hgrow1 hat1; have q1 := (G0.out.2 _ _ _ hown1 hgrow1 hat1).1)
          all_goals
            obtain ⟨-, t2, b2⟩ := G0.out.2 _ _ _ hown1 hgrow1 hat1
            have T2 := Lib.hid t2
            have B2 := Lib.hid b2
            clear t2 b2 hown1 hgrow1 hat1 q1 c0 c1 f0 f1 c0a hcq hsz
            generalize w1.setCell ⟨w.heap.size + 1 + 1, 0, none⟩ (.slice aa (xs.length + 1) cap) = w2 at *
            obtain ⟨d0, d1, g0, g1⟩ := T2.out.cells
            have G1 := Lib.hid (T2.out.grow1 B2.out HBB.out (X := w2.alloc (.cells #[.int .i64 ((i : Int))] 3)) ((Below.refl _ _).alloc (Nat.le_refl _) _) ((i : Int)))
            have ON2 := Lib.hid (one_ints w2 ((i : Int)) HIV.out)
            have d1a : (w2.alloc (.cells #[.int .i64 ((i : Int))] 3)).cell? ⟨w.heap.size + 1 + 1, 1, none⟩ = some vy := (World.cell?_of_block (w := w2) (Below.heap_alloc _ _ _ T2.out.lt)).trans d1
            have hs2 : w.heap.size + 1 ≤ (w2.alloc (.cells #[.int .i64 ((i : Int))] 3)).heap.size := by
              have := T2.out.lt
              rw [show (w2.alloc (.cells #[.int .i64 ((i : Int))] 3)).heap.size = w2.heap.size + 1 from Array.size_push _]; exact Nat.le_trans (Nat.le_succ _) (Nat.le_of_lt (Nat.lt_succ_of_lt this))
            go_wp2_with (at_builtin; go_must (refine wpList_append_ints rfl (.tmp 64) (.tmp 66) rfl (w.heap.size + 1) ys.length vy ys rfl ?e1 (some ⟨w2.heap.size, 0, none⟩) 1 1 [((i : Int))] rfl ?e2 (by intro e; cases e) hyl (by decide) ?e3 ?e4))
            case e1 => exact G1.out.1
            case e2 => exact ON2.out
            case e3 => exact hs2
            case e4 =>
              intro aa2 cap2 w3 hown hg hat
              have hat2 : (Value.slice aa2 (ys.length + 1) cap2).ownBlock = vy.ownBlock ∨ (Value.slice aa2 (ys.length + 1) cap2).ownBlock = some (w2.alloc (.cells #[.int .i64 ((i : Int))] 3)).heap.size := by
                rw [show (w2.alloc (.cells #[.int .i64 ((i : Int))] 3)).heap.size = w2.heap.size + 1 from Array.size_push _]; exact hat
              obtain ⟨⟨q1, q2⟩, t3, b3⟩ := G1.out.2 _ _ _ hown hg hat2
              have X := Lib.hid (NX.out _ _ _ t3 b3)
              clear hown hg hat hat2 t3 b3 d0 d1 g0 g1 d1a hs2
              go_wp2_with fail
              go_roundw
              case rel => exact ⟨i, j + 1, rfl, by go_num, X.out⟩
              case measure => simp [intOf]; omega
    · obtain ⟨p1, p2, p3, -⟩ := Huff.mix_parts id ps qs (i + j) ht
      simp only [List.map_id] at p1 p2 p3
      rw [← hi] at p1 p3
      have hin : i = n := by omega
      have hjm : j = m := by omega
      subst hin
      subst hjm
      obtain ⟨c0, c1, f0, f1⟩ := two.cells
      have hr1 : (w.alloc (.cells #[.slice none 0 0, .slice none 0 0] 56)).heap.size = w.heap.size + 1 := Array.size_push _
      have hR : wr.heap[w.heap.size]? = some (.cells #[.slice none 0 0, .slice none 0 0] 56) := (hb.block _ (Nat.lt_succ_self _)).trans (heap_alloc_new _ _)
      have r0 : wr.cell? ⟨w.heap.size, 0, none⟩ = some (.slice none 0 0) := by simp [World.cell?, hR]
      have r1 : wr.cell? ⟨w.heap.size, 1, none⟩ = some (.slice none 0 0) := by simp [World.cell?, hR]
      have s0 : wr.frozen? ⟨w.heap.size, 0, none⟩ = false := by simp [World.frozen?, hR]
      have s1 : wr.frozen? ⟨w.heap.size, 1, none⟩ = false := by simp [World.frozen?, hR]
      obtain ⟨ax, cx, rfl⟩ := own_form two.ox
      obtain ⟨ay, cy, rfl⟩ := own_form two.oy
      have TW := Lib.hid two
      have HB := Lib.hid hb
      have HI := Lib.hid (And.intro ht hi)
      have hxl : (natZ ((Huff.mix id ps qs).take (i + j))).length = i + j := by rw [natZ_length, List.length_take, Huff.mix_length]; omega
      have hyl : (natZ (cntsTo ps qs (i + j))).length = i + j + 1 := by rw [natZ_length, cntsTo_length]
      have HFIN := Lib.hid (fun (W : World) (hW : Below w.heap.size w W) (hk : ∀ k, w.heap.size + 1 ≤ k → W.heap[k]? = wr.heap[k]?) => show MergeSay w ps qs (.returned (.agg #[.slice ax (i + j) cx, .slice ay (i + j + 1) cy])) W from by
        have o1 := TW.out.ox
        have o2 := TW.out.oy
        rw [hxl] at o1
        rw [hyl] at o2
        have e : (Huff.mix id ps qs).take (i + j) = Huff.mix id ps qs := List.take_of_length_le (by rw [Huff.mix_length]; omega)
        rw [e] at o1
        obtain ⟨q1, q2⟩ := own_ints2 o1 hk (mix_le HPS.out.1 HPS.out.2)
        obtain ⟨q3, q4⟩ := own_ints2 o2 hk (fun u hu => by have := cnts_le ps qs _ HI.out.1 u hu; omega)
        refine ⟨ax, cx, ay, cy, by rw [hln, hlm], by rw [hln, hlm]; exact q1, by rw [hln, hlm]; exact q3, fun x hx => by have := q2 x hx; omega, fun x hx => by have := q4 x hx; omega, hW⟩)
      have HBW := Lib.hid (show Below w.heap.size w wr from below_join ((Below.refl w.heap.size w).alloc (Nat.le_refl _) (.cells #[.slice none 0 0, .slice none 0 0] 56)) (by rw [hr1]; exact hb) (Nat.le_refl _))
      have HG := Lib.hid (show ((wr.setCell ⟨w.heap.size, 0, none⟩ (.slice ax (i + j) cx)).setCell ⟨w.heap.size, 1, none⟩ (.slice ay (i + j + 1) cy)).heap[w.heap.size]? = some (.cells #[.slice ax (i + j) cx, .slice ay (i + j + 1) cy] 56 (0, 0)) from by
        rw [block_set (block_set hR _)]; rfl)
      clear two hb ht hi p1 p2 p3 hR hr1
      rw [hxl] at c0
      rw [hyl] at c1
      go_wp2
      refine bodyPost_ret (results_cell_row rfl _ _ w.heap.size 56 #[.slice ax (i + j) cx, .slice ay (i + j + 1) cy] (0, 0) _ rfl ?hg Try.underlying56 rfl (by kernel_rfl)) rfl ?_
      case hg => exact HG.out
      exact HFIN.out _ (below_set (below_set HBW.out (Nat.le_refl _) _) (Nat.le_refl _) _) (fun k hk => (Below.heap_setCell _ _ _ _ (by simp only; omega)).trans (Below.heap_setCell _ _ _ _ (by simp only; omega)))
end Go.Proofs.Ytoiknbbimgeihaa
