/- reader.row, reader.point, reader.plane. -/
import Derived.Test.YtcdhpidglchinaaI
namespace Go.Proofs.Ytcdhpidglchinaa
open Go.RowKit Go.Lib Pk
set_option linter.unusedSimpArgs false
set_option linter.unusedVariables false

set_option maxHeartbeats 400000 in
theorem rrow_any (w : World) (Q P : Nat) (s : St) (h : Rd w Q P s) (hl : s.ys.length ≤ 1000000) :
    Calls Try.prog 32 #[.pointer (some ⟨P, 0, none⟩)] w (GotL w Q P 3 1 (ints (getL num s).1) (getL num s).2) := by
  have C := Lib.hid (getInts_any w Q P s h hl)
  clear h hl
  go_enter Try.func32, Try.ntmps32
  go_wp2_with (go_at_call 39; ((with_reducible refine C.out.mono ?_); rintro en w1 ⟨hd, rfl, ho, ht⟩; have HO := Lib.hid (And.intro ho ht); clear ho ht))
  go_ret
  exact ⟨hd, rfl, HO.out.1, HO.out.2⟩
theorem sizePt : (Try.prog.info? 60).map (·.size) = some 2 := by kernel_rfl
theorem sizeMap : (Try.prog.info? 25).map (·.size) = some 6 := by kernel_rfl
theorem getPt_nums (s : St) : (nums 2 s).1 = [(getPt s).1.1, (getPt s).1.2] ∧ (nums 2 s).2 = (getPt s).2 := ⟨rfl, rfl⟩
theorem getPt_less (s : St) : (getPt s).2.ys.length ≤ s.ys.length := codec_pt.less s
theorem lay2 (x y : Int) (a b : Value) : lay 0 [x, y] #[a, b] = #[.int .i64 x, .int .i64 y] := rfl
set_option maxRecDepth 100000 in
set_option maxHeartbeats 800000 in
theorem rpoint_any (w : World) (Q P : Nat) (s : St) (h : Rd w Q P s) (hl : s.ys.length ≤ 1000000) :
    Calls Try.prog 34 #[.pointer (some ⟨P, 0, none⟩)] w fun en w' => en = .returned (.agg #[.int .i64 (getPt s).1.1, .int .i64 (getPt s).1.2]) ∧ RNext w Q P (getPt s).2 w' := by
  obtain ⟨u, hu⟩ : ∃ u, u = (w.alloc (.cells #[.int .i64 0, .int .i64 0] 60)).alloc (.cells #[.pointer (some ⟨w.heap.size, 0, none⟩), .pointer (some ⟨w.heap.size, 1, none⟩)] 76) := ⟨_, rfl⟩
  have K0 : Keeps none' w u := by rw [hu]; exact ((Keeps.refl none' w).alloc _).alloc _
  have hP := h.lt
  have hQ : Q ≤ w.heap.size := by obtain ⟨g, hg⟩ := h; have := hg.le; omega
  have hE : u.heap[w.heap.size]? = some (.cells #[.int .i64 0, .int .i64 0] 60 (0, 0)) := by
    rw [hu]
    exact (Below.heap_alloc (w.alloc (.cells #[.int .i64 0, .int .i64 0] 60)) _ _ (by simp)).trans (heap_alloc_new w _)
  have hc : Cells 1 u ⟨some ⟨w.heap.size + 1, 0, none⟩, 2, 2⟩ (ptrs w.heap.size 2) := by
    have := cells_new 1 (w.alloc (.cells #[.int .i64 0, .int .i64 0] 60)) #[.pointer (some ⟨w.heap.size, 0, none⟩), .pointer (some ⟨w.heap.size, 1, none⟩)] 76 2 2 (ptrs w.heap.size 2) rfl rfl (Nat.le_refl _) (by intro u hu; simp [ptrs, List.range, List.range.loop] at hu; rcases hu with rfl | rfl <;> rfl)
    rw [← hu] at this
    simpa using this
  have C := Lib.hid (rnums_any u Q P w.heap.size 60 _ s ⟨some ⟨w.heap.size + 1, 0, none⟩, 2, 2⟩ 2 (h.later K0) hl hE (by simp) hQ (by omega) hc (by intro x hx; cases hx; constructor; show w.heap.size + 1 ≠ P; omega; show w.heap.size + 1 ≠ w.heap.size; omega) (by omega))
  have KK := Lib.hid K0
  have HP := Lib.hid hP
  have HQ := Lib.hid hQ
  have hsz := sizePt
  clear hE hc K0 h hl hP hQ
  go_enter Try.func34, Try.ntmps34
  have HU := Lib.hid hu
  rw [hu] at C
  clear hu
  go_wp2_with (first
    | (go_at_call 31; ((with_reducible refine C.out.mono ?_); rintro en w1 ⟨rfl, r1, b1, k1⟩; rw [(getPt_nums s).1, lay2] at b1; have d0 := cell_at (i := 0) b1 rfl; have d1 := cell_at (i := 1) b1 rfl; have e0 := free_at (i := 0) b1; have e1 := free_at (i := 1) b1; have B1 := Lib.hid b1; have K1 := Lib.hid (And.intro r1 k1); clear b1 r1 k1)))
  have hb := block_set (i := 1) (block_set (i := 0) B1.out (.int .i64 (getPt s).1.1)) (.int .i64 (getPt s).1.2)
  obtain ⟨r1, k1⟩ := K1.out
  rw [← HU.out] at k1
  refine bodyPost_ret (results_cell_row rfl _ _ w.heap.size 60 _ (0, 0) _ rfl hb Try.underlying60 rfl hsz) rfl ⟨rfl, ?_⟩
  have kE := (keeps_at w1 w.heap.size 0 (.int .i64 (getPt s).1.1)).trans (keeps_at _ w.heap.size 1 (.int .i64 (getPt s).1.2)) (fun _ _ h => h)
  rw [(getPt_nums s).2] at r1
  have hPl := HP.out
  have hQ := HQ.out
  refine ⟨r1.keep kE (fun i hi => by subst hi; exact ⟨hQ, by omega⟩), ?_⟩
  exact ((KK.out.weak (fun _ _ f => f.elim)).trans k1 (fun i hi x => by rcases x with x | x; exact x; omega)).trans kE (fun i hi x => by omega)
theorem keeps_row (w : World) (E : Nat) (cs : Array Value) : Keeps (fun k => k = E) w (w.setRow E cs) := ⟨rfl, rfl, rfl, by simp, fun k _ hn => setRow_other w E k cs hn⟩
theorem lay6 (x y z u v t : Int) (a b c d e f : Value) : lay 0 [x, y, z, u, v, t] #[a, b, c, d, e, f] = #[.int .i64 x, .int .i64 y, .int .i64 z, .int .i64 u, .int .i64 v, .int .i64 t] := rfl
def Z6 : Array Value := #[.int .i64 0, .int .i64 0, .int .i64 0, .int .i64 0, .int .i64 0, .int .i64 0]
theorem six_all (l : List Int) (hl : l.length = 6) : (lay 0 l Z6).toList = ints l := by
  match l, hl with
  | [a, b, c, d, e, f], _ => rfl
theorem ints_all (l : List Int) : (ints l).toArray.all (·.oneCell') = true := by
  rw [Array.all_eq_true_iff_forall_mem]
  intro u hu
  exact ints_one l u (by simpa using hu)
set_option maxRecDepth 100000 in
set_option maxHeartbeats 800000 in
theorem rplane_any (w : World) (Q P : Nat) (s : St) (h : Rd w Q P s) (hl : s.ys.length ≤ 1000000) :
    Calls Try.prog 35 #[.pointer (some ⟨P, 0, none⟩)] w fun en w' => en = .returned (.agg (ints (nums 6 s).1).toArray) ∧ RNext w Q P (nums 6 s).2 w' := by
  obtain ⟨E, hE0⟩ : ∃ E, E = w.heap.size := ⟨_, rfl⟩
  obtain ⟨u, hu⟩ : ∃ u, u = w.alloc (.cells Z6 25) := ⟨_, rfl⟩
  have K0 : Keeps none' w u := by rw [hu]; exact (Keeps.refl none' w).alloc _
  have hP : P < E := by rw [hE0]; exact h.lt
  have hQ : Q ≤ E := by obtain ⟨g, hg⟩ := h; have := hg.le; omega
  have hE : u.heap[E]? = some (.cells Z6 25 (0, 0)) := by rw [hu, hE0]; exact heap_alloc_new w _
  have N0 := Lib.hid (show NumsB u Q P E 25 Z6 s 0 u from ⟨h.later K0, hE, Keeps.refl _ _⟩)
  have HH := Lib.hid (And.intro hP (And.intro hQ (And.intro hE0 (And.intro K0 hl))))
  have hsz : (Try.prog.info? 25).map (·.size) = some (ints (nums 6 s).1).toArray.size := by rw [sizeMap]; simp [ints, nums_len]
  have AL := Lib.hid (ints_all (nums 6 s).1)
  have HU := Lib.hid hu
  unfold Z6 at hu
  clear hE K0 h hl hP hQ
  go_enter Try.func35, Try.ntmps35
  go_upto_region 1 with (fail)
  rw [← hu, ← hE0]
  clear hu hE0
  go_wp2_with fail
  go_loopw [4] (fun v wr => ∃ k : Nat, k ≤ 6 ∧ v = .int .i64 k ∧ NumsB u Q P E 25 Z6 s k wr) (fun v _ => 6 - (intOf v).toNat)
  case atStart => exact ⟨0, by omega, rfl, N0.out⟩
  case round =>
    obtain ⟨k, hk, rfl, hb⟩ := hrel
    have HB := Lib.hid hb
    obtain ⟨r1, b1, k1⟩ := hb
    by_cases hlt : k < 6
    · have hls := nums_less k s
      have C := Lib.hid (rnum_any wr Q P (nums k s).2 r1 (by have := HH.out.2.2.2.2; omega))
      obtain ⟨x, hx⟩ : ∃ x, x = (num (nums k s).2).1 := ⟨_, rfl⟩
      rw [← hx] at C
      have hsz : k < (lay 0 (nums k s).1 Z6).size := by rw [lay_size]; exact hlt
      have AE := Lib.hid (fun (w1 : World) (t : RNext wr Q P (num (nums k s).2).2 w1) => show w1.heap[E]? = some (.cells (lay 0 (nums k s).1 Z6) 25 (0, 0)) from (t.2.block E (lt_of_block b1) (by have := HH.out.1; omega)).trans b1)
      have HX := Lib.hid hx
      have HS := Lib.hid hsz
      clear r1 b1 k1 hls hx hsz
      go_wp2_with (go_at_call 38; ((with_reducible refine C.out.mono ?_); rintro en w1 ⟨rfl, t1⟩; have T1 := Lib.hid t1; have e1 := AE.out _ t1; have ce : ∃ v, w1.cell? ⟨E, k, none⟩ = some v := (by refine ⟨_, cell_at e1 (Array.getElem?_eq_getElem HS.out)⟩); have fe := free_at (i := k) e1; obtain ⟨v, ce⟩ := ce; have E1 := Lib.hid e1; clear e1 t1))
      go_roundw
      case rel =>
        refine ⟨k + 1, by omega, by go_num, ?_⟩
        obtain ⟨r1, b1, k1⟩ := HB.out
        have en := nums_snoc k s
        unfold NumsB
        rw [en, ← HX.out]
        refine ⟨?_, ?_, ?_⟩
        · exact T1.out.1.keep (keeps_at w1 E k _) (fun i hi => by subst hi; exact ⟨HH.out.2.1, by have := HH.out.1; omega⟩)
        · rw [block_set E1.out]
          simp only
          rw [lay_snoc, nums_len, Nat.zero_add]
        · exact (k1.trans T1.out.2 (fun _ _ x => Or.inl x)).trans (keeps_at w1 E k _) (fun _ _ x => Or.inr x)
      case measure => simp [intOf]; omega
    · obtain rfl : k = 6 := by omega
      have e6 : lay 0 (nums 6 s).1 Z6 = (ints (nums 6 s).1).toArray := by rw [← six_all _ (nums_len 6 s)]
      rw [e6] at b1
      have B1 := Lib.hid b1
      clear r1 b1 k1 e6
      go_wp2_with (first
        | (refine wpList_load_row rfl 25 _ rfl E rfl 25 _ (0, 0) _ B1.out Try.underlying25 rfl hsz ?_)
        | (refine wpList_store_row rfl 25 _ _ rfl E (ints (nums 6 s).1).toArray rfl rfl 25 _ B1.out hsz rfl AL.out ?_))
      refine bodyPost_ret (results_cell_row rfl _ _ E 25 (ints (nums 6 s).1).toArray (0, 0) _ rfl (setRow_heap _ _ _ _ _ _ B1.out) Try.underlying25 rfl hsz) rfl ⟨rfl, ?_⟩
      obtain ⟨r1, b1, k1⟩ := HB.out
      have kE : Keeps (fun k => k = E) wr (wr.setRow E (ints (nums 6 s).1).toArray) := keeps_row wr E _
      have h1 := HH.out.1
      have h3 := HH.out.2.2.1
      refine ⟨r1.keep kE (fun i hi => by subst hi; exact ⟨HH.out.2.1, by omega⟩), ?_⟩
      exact ((HH.out.2.2.2.1.weak (fun _ _ f => f.elim)).trans k1 (fun i hi x => by rcases x with x | x; exact x; omega)).trans kE (fun i hi x => by omega)
end Go.Proofs.Ytcdhpidglchinaa
