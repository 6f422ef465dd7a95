/- The walk of at. -/
import Derived.Test.YtaandnikamnbbaaPC
namespace Go.Proofs.Ytaandnikamnbbaa
open Go.RowKit
set_option linter.unusedVariables false

/-- A finder in memory. -/
structure Finder (w : World) (P : Nat) (a : Option Addr) (n c : Nat) (ys : List Nat) (g tries : Nat) : Prop where
  blk : w.heap[P]? = some (.cells #[.slice a n c, .slice (some ⟨g, 0, none⟩) n n, .int .i64 (tries : Nat)] 40 (0, 0))
  arg : Arg w a n c ys
  places : Places w (some ⟨g, 0, none⟩) n (Lz.backs ys)
theorem Finder.below {w w' : World} {P : Nat} {a : Option Addr} {n c : Nat} {ys : List Nat} {g tries : Nat} (h : Finder w P a n c ys g tries) (hb : Below w.heap.size w w') : Finder w' P a n c ys g tries :=
  ⟨(hb.block P (lt_of_block h.blk)).trans h.blk, h.arg.below hb, h.places.later hb.block⟩
theorem Finder.cells {w : World} {P : Nat} {a : Option Addr} {n c : Nat} {ys : List Nat} {g tries : Nat} (h : Finder w P a n c ys g tries) :
    w.cell? ⟨P, 0, none⟩ = some (.slice a n c) ∧ w.cell? ⟨P, 1, none⟩ = some (.slice (some ⟨g, 0, none⟩) n n) ∧ w.cell? ⟨P, 2, none⟩ = some (.int .i64 (tries : Nat)) := by
  have hb := h.blk
  refine ⟨?_, ?_, ?_⟩ <;> simp [World.cell?, hb]
/-- A token that is told. -/
def Tells (w : World) (t : Tok) (e : Ending) (w' : World) : Prop := e = .returned (.agg #[.int .i64 t.L, .int .i64 t.D, .int .u8 (t.X : Nat)]) ∧ Below w.heap.size w w'

set_option maxRecDepth 100000 in
set_option maxHeartbeats 1600000 in
theorem at_out (w : World) (P : Nat) (a : Option Addr) (n c : Nat) (ys : List Nat) (g tries p : Nat) (h : Finder w P a n c ys g tries) (hn : n ≤ 16777216) (hp : p ≤ 16777217) (hnp : n ≤ p) :
    Calls Try.prog 16 #[.pointer (some ⟨P, 0, none⟩), .int .i64 p] w (Tells w (atP ys tries p)) := by
  have e : atP ys tries p = ⟨0, 0, 0⟩ := by unfold atP; rw [if_pos (by rw [h.arg.1.1]; exact hnp)]
  have hPl := lt_of_block h.blk
  obtain ⟨c0, c1, c2⟩ := h.cells
  have hb : Below w.heap.size w (w.alloc (.cells #[.int .i64 0, .int .i64 0, .int .u8 0] 27)) := (Below.refl _ _).alloc (Nat.le_refl _) _
  have HB := Lib.hid hb
  rw [e]
  clear h hb e
  go_enter Try.func16, Try.ntmps16
  go_wp2_with fail
  refine bodyPost_ret (results_cell_row rfl _ _ w.heap.size 27 #[.int .i64 0, .int .i64 0, .int .u8 0] (0, 0) _ rfl ?hg Try.underlying27 rfl (by kernel_rfl)) rfl ?_
  case hg => exact heap_alloc_new _ _
  exact ⟨rfl, HB.out⟩

set_option maxRecDepth 100000 in
set_option maxHeartbeats 3200000 in
theorem at_in (w : World) (P b off n c : Nat) (ys : List Nat) (g tries p : Nat) (h : Finder w P (some ⟨b, off, none⟩) n c ys g tries) (hn : n ≤ 16777216) (ht : tries ≤ 128) (hnp : p < n) :
    Calls Try.prog 16 #[.pointer (some ⟨P, 0, none⟩), .int .i64 p] w (Tells w (tokOf ys p (seek ys p tries p 0 0))) := by
  have hPl := lt_of_block h.blk
  obtain ⟨c0, c1, c2⟩ := h.cells
  have hyl : ys.length = n := h.arg.1.1
  have hcap : n ≤ c := h.arg.2.1
  obtain ⟨b', off', y0, e', hy0, hy256, hcy⟩ := h.arg.1.at hnp
  cases e'
  have hbl : b < w.heap.size := World.block_lt_of_cell? w (⟨b, off + p, none⟩ : Addr) hcy
  have hyp : ys.getD p 0 = y0 := by rw [List.getD_eq_getElem?_getD, hy0]; rfl
  have hb0 : Below w.heap.size w (w.alloc (.cells #[.int .i64 0, .int .i64 0, .int .u8 0] 27)) := (Below.refl _ _).alloc (Nat.le_refl _) _
  have hb1 : Below w.heap.size w ((w.alloc (.cells #[.int .i64 0, .int .i64 0, .int .u8 0] 27)).alloc (.cells #[.int .i64 0, .int .i64 0, .int .u8 (y0 : Nat)] 27)) := hb0.alloc hb0.size _
  have hR0 : ((w.alloc (.cells #[.int .i64 0, .int .i64 0, .int .u8 0] 27)).alloc (.cells #[.int .i64 0, .int .i64 0, .int .u8 (y0 : Nat)] 27)).heap[w.heap.size]? = some (.cells #[.int .i64 0, .int .i64 0, .int .u8 0] 27 (0, 0)) :=
    (Below.heap_alloc _ _ _ (by simp)).trans (heap_alloc_new _ _)
  have hR1 : ((w.alloc (.cells #[.int .i64 0, .int .i64 0, .int .u8 0] 27)).alloc (.cells #[.int .i64 0, .int .i64 0, .int .u8 (y0 : Nat)] 27)).heap[w.heap.size + 1]? = some (.cells #[.int .i64 0, .int .i64 0, .int .u8 (y0 : Nat)] 27 (0, 0)) := by
    have := heap_alloc_new (w.alloc (.cells #[.int .i64 0, .int .i64 0, .int .u8 0] 27)) (.cells #[.int .i64 0, .int .i64 0, .int .u8 (y0 : Nat)] 27)
    simpa using this
  have HB := Lib.hid (And.intro hb1 (And.intro hR0 hR1))
  have HF := Lib.hid h
  have HY := Lib.hid (And.intro hyl (And.intro hyp hy256))
  obtain ⟨hi, hhi⟩ : ∃ hi, hi = min (p + 258) n := ⟨_, rfl⟩
  have hmin : (if (n : Int) < (p : Int) + 258 then (n : Int) else (p : Int) + 258) = (hi : Int) := by split <;> omega
  have hadd : IntKind.i64.wrap ((p : Int) + 258) = (p : Int) + 258 := wrap_i64 _ (by omega) (by omega)
  have hpi : p ≤ hi := by omega
  have hin : hi ≤ n := by omega
  have hic : hi ≤ c := by omega
  have hcp : ¬ c = p := by omega
  obtain ⟨rl, hrl⟩ : ∃ rl, rl = hi - p := ⟨_, rfl⟩
  have hrl2 : hi - p = rl := hrl.symm
  have HRL := Lib.hid (show restLen ys.length p = rl by unfold restLen; omega)
  have u0 : decide (n ≤ p) = false := by simp; omega
  clear h hb0 hb1 hR0 hR1 hyl hyp hhi hy0 hrl
  go_enter Try.func16, Try.ntmps16
  go_wp2_with fail
  go_quiet (fail)
  clear hmin hadd
  have Y : Below w.heap.size w (((w.alloc (.cells #[.int .i64 0, .int .i64 0, .int .u8 0] 27)).alloc (.cells #[.int .i64 0, .int .i64 0, .int .u8 (y0 : Nat)] 27)).drewN nq) ∧ (((w.alloc (.cells #[.int .i64 0, .int .i64 0, .int .u8 0] 27)).alloc (.cells #[.int .i64 0, .int .i64 0, .int .u8 (y0 : Nat)] 27)).drewN nq).heap[w.heap.size]? = some (.cells #[.int .i64 0, .int .i64 0, .int .u8 0] 27 (0, 0)) ∧ (((w.alloc (.cells #[.int .i64 0, .int .i64 0, .int .u8 0] 27)).alloc (.cells #[.int .i64 0, .int .i64 0, .int .u8 (y0 : Nat)] 27)).drewN nq).heap[w.heap.size + 1]? = some (.cells #[.int .i64 0, .int .i64 0, .int .u8 (y0 : Nat)] 27 (0, 0)) :=
    ⟨below_drewN HB.out.1 _, HB.out.2.1, HB.out.2.2⟩
  clear HB
  have hcP := (HF.out.below Y.1).cells.2.2
  generalize (((w.alloc (.cells #[.int .i64 0, .int .i64 0, .int .u8 0] 27)).alloc (.cells #[.int .i64 0, .int .i64 0, .int .u8 (y0 : Nat)] 27)).drewN nq) = w1 at *
  have HB := Lib.hid Y
  clear Y
  go_wp2_with fail
  go_loopw [7, 8] (fun fv tv wl => ∃ k fr L D X0 : Nat, k ≤ tries ∧ tv = .int .i64 k ∧ fv = .int .i64 fr ∧ fr ≤ p ∧ L ≤ 258 ∧ X0 = (if L = 0 then y0 else 0) ∧ wl.heap[w.heap.size + 1]? = some (.cells #[.int .i64 (L : Nat), .int .i64 (D : Nat), .int .u8 (X0 : Nat)] 27 (0, 0)) ∧ wl.heap[w.heap.size]? = some (.cells #[.int .i64 0, .int .i64 0, .int .u8 0] 27 (0, 0)) ∧ Below w.heap.size w wl ∧ seek ys p tries p 0 0 = seek ys p k fr L D) (fun _ tv _ => (intOf tv).toNat)
  case atStart => exact ⟨tries, p, 0, 0, y0, Nat.le_refl _, rfl, rfl, Nat.le_refl _, Nat.zero_le _, rfl, HB.out.2.2, HB.out.2.1, HB.out.1, rfl⟩
  case round =>
    clear HB hcP
    obtain ⟨k, fr, L, D, X0, hk, rfl, rfl, hfrp, hL, hX0, hr1, hr0, hb, hsk⟩ := hrel
    obtain ⟨d0, d1, d2⟩ := (HF.out.below hb).cells
    obtain ⟨e0, e1, e2⟩ := box_cells hr1
    have hr0' : wr.heap[w.heap.size]? = some (.cells #[.int .i64 0, .int .i64 0, .int .u8 ((0 : Nat) : Int)] 27 (0, 0)) := hr0
    have hfr : fr < n := by omega
    by_cases hk0 : k = 0
    · subst hk0
      have SK : seek ys p 0 fr L D = (L, D) := rfl
      have X := Lib.hid (show Tells w (tokOf ys p (seek ys p tries p 0 0)) (.returned (.agg #[.int .i64 (L : Nat), .int .i64 (D : Nat), .int .u8 (X0 : Nat)])) (((wr.setCell ⟨w.heap.size, 0, none⟩ (.int .i64 (L : Nat))).setCell ⟨w.heap.size, 1, none⟩ (.int .i64 (D : Nat))).setCell ⟨w.heap.size, 2, none⟩ (.int .u8 (X0 : Nat))) from by
        refine ⟨?_, below_set (below_set (below_set hb (Nat.le_refl _) _) (Nat.le_refl _) _) (Nat.le_refl _) _⟩
        rw [hsk, SK, hX0, ← HY.out.2.1]
        rfl)
      have HR := Lib.hid (show (((wr.setCell ⟨w.heap.size, 0, none⟩ (.int .i64 (L : Nat))).setCell ⟨w.heap.size, 1, none⟩ (.int .i64 (D : Nat))).setCell ⟨w.heap.size, 2, none⟩ (.int .u8 (X0 : Nat))).heap[w.heap.size]? = some (.cells #[.int .i64 (L : Nat), .int .i64 (D : Nat), .int .u8 (X0 : Nat)] 27 (0, 0)) from by
        rw [block_set (block_set (block_set hr0 _) _) _]; rfl)
      obtain ⟨s0, s1, s2⟩ := box_cells hr0'
      have f0 : ∀ i, wr.frozen? ⟨w.heap.size, i, none⟩ = false := fun i => by simp [World.frozen?, hr0]
      clear hb hsk hX0 hr0 hr0' hr1 SK
      go_wp2_with fail
      refine bodyPost_ret (results_cell_row rfl _ _ w.heap.size 27 #[.int .i64 (L : Nat), .int .i64 (D : Nat), .int .u8 (X0 : Nat)] (0, 0) _ rfl ?hg Try.underlying27 rfl (by kernel_rfl)) rfl ?_
      case hg => exact HR.out
      exact X.out
    · obtain ⟨gg, oo, z, eg, hz, hz31, hcz⟩ := (HF.out.places.later hb.block).at hfr
      cases eg
      rw [Nat.zero_add] at hcz
      have hk1 : 0 < k := by omega
      obtain ⟨kk, hkk⟩ : ∃ kk, k = kk + 1 := ⟨k - 1, by omega⟩
      have hzd : (Lz.backs ys).getD fr 0 = z := by rw [List.getD_eq_getElem?_getD, hz]; rfl
      by_cases hz0 : z = 0
      · subst hz0
        have SK : seek ys p k fr L D = (L, D) := by rw [hkk, seek, if_pos hzd]
        clear hz hzd hkk
        have X := Lib.hid (show Tells w (tokOf ys p (seek ys p tries p 0 0)) (.returned (.agg #[.int .i64 (L : Nat), .int .i64 (D : Nat), .int .u8 (X0 : Nat)])) (((wr.setCell ⟨w.heap.size, 0, none⟩ (.int .i64 (L : Nat))).setCell ⟨w.heap.size, 1, none⟩ (.int .i64 (D : Nat))).setCell ⟨w.heap.size, 2, none⟩ (.int .u8 (X0 : Nat))) from by
          refine ⟨?_, below_set (below_set (below_set hb (Nat.le_refl _) _) (Nat.le_refl _) _) (Nat.le_refl _) _⟩
          rw [hsk, SK, hX0, ← HY.out.2.1]
          rfl)
        have HR := Lib.hid (show (((wr.setCell ⟨w.heap.size, 0, none⟩ (.int .i64 (L : Nat))).setCell ⟨w.heap.size, 1, none⟩ (.int .i64 (D : Nat))).setCell ⟨w.heap.size, 2, none⟩ (.int .u8 (X0 : Nat))).heap[w.heap.size]? = some (.cells #[.int .i64 (L : Nat), .int .i64 (D : Nat), .int .u8 (X0 : Nat)] 27 (0, 0)) from by
          rw [block_set (block_set (block_set hr0 _) _) _]; rfl)
        obtain ⟨s0, s1, s2⟩ := box_cells hr0'
        have f0 : ∀ i, wr.frozen? ⟨w.heap.size, i, none⟩ = false := fun i => by simp [World.frozen?, hr0]
        clear hb hsk hX0 hr0 hr0' hr1 SK
        go_wp2_with fail
        refine bodyPost_ret (results_cell_row rfl _ _ w.heap.size 27 #[.int .i64 (L : Nat), .int .i64 (D : Nat), .int .u8 (X0 : Nat)] (0, 0) _ rfl ?hg Try.underlying27 rfl (by kernel_rfl)) rfl ?_
        case hg => exact HR.out
        exact X.out
      · have hz1 : 0 < z := by omega
        have hgood := Lz.backs_good (ys := ys) HF.out.arg.1.2.1 fr
        rw [hzd] at hgood
        have hzf : z ≤ fr := by
          rcases hgood with h | h
          · exact absurd h hz0
          · exact h.1
        obtain ⟨f, hf⟩ : ∃ f, f = fr - z := ⟨_, rfl⟩
        have hfz : (fr : Int) - (z : Int) = (f : Int) := by omega
        have hfn : f < n := by omega
        have hfp : f ≤ p := by omega
        · obtain ⟨d, hd⟩ : ∃ d, d = p - f := ⟨_, rfl⟩
          have hpf : (p : Int) - (f : Int) = (d : Int) := by omega
          have hstep : seek ys p k fr L D = if 32768 < d ∨ L = rl then (L, D) else if L < common (restOf ys p) (ys.drop f) then seek ys p kk f (common (restOf ys p) (ys.drop f)) d else seek ys p kk f L D := by
            rw [hkk, seek, hzd, if_neg hz0, ← hf, ← hd, HRL.out]
          by_cases hfar : 32768 < d
          · have SK : seek ys p k fr L D = (L, D) := by rw [hstep, if_pos (Or.inl hfar)]
            have u1 : decide (32768 < d) = true := by simpa using hfar
            clear hstep hz hzd hkk hgood hf hd
            have X := Lib.hid (show Tells w (tokOf ys p (seek ys p tries p 0 0)) (.returned (.agg #[.int .i64 (L : Nat), .int .i64 (D : Nat), .int .u8 (X0 : Nat)])) (((wr.setCell ⟨w.heap.size, 0, none⟩ (.int .i64 (L : Nat))).setCell ⟨w.heap.size, 1, none⟩ (.int .i64 (D : Nat))).setCell ⟨w.heap.size, 2, none⟩ (.int .u8 (X0 : Nat))) from by
              refine ⟨?_, below_set (below_set (below_set hb (Nat.le_refl _) _) (Nat.le_refl _) _) (Nat.le_refl _) _⟩
              rw [hsk, SK, hX0, ← HY.out.2.1]
              rfl)
            have HR := Lib.hid (show (((wr.setCell ⟨w.heap.size, 0, none⟩ (.int .i64 (L : Nat))).setCell ⟨w.heap.size, 1, none⟩ (.int .i64 (D : Nat))).setCell ⟨w.heap.size, 2, none⟩ (.int .u8 (X0 : Nat))).heap[w.heap.size]? = some (.cells #[.int .i64 (L : Nat), .int .i64 (D : Nat), .int .u8 (X0 : Nat)] 27 (0, 0)) from by
              rw [block_set (block_set (block_set hr0 _) _) _]; rfl)
            obtain ⟨s0, s1, s2⟩ := box_cells hr0'
            have f0 : ∀ i, wr.frozen? ⟨w.heap.size, i, none⟩ = false := fun i => by simp [World.frozen?, hr0]
            clear hb hsk hX0 hr0 hr0' hr1 SK
            go_wp2_with fail
            refine bodyPost_ret (results_cell_row rfl _ _ w.heap.size 27 #[.int .i64 (L : Nat), .int .i64 (D : Nat), .int .u8 (X0 : Nat)] (0, 0) _ rfl ?hg Try.underlying27 rfl (by kernel_rfl)) rfl ?_
            case hg => exact HR.out
            exact X.out
          · have u1 : decide (32768 < d) = false := by simpa using hfar
            by_cases hLr : L = rl
            · have SK : seek ys p k fr L D = (L, D) := by rw [hstep, if_pos (Or.inr hLr)]
              subst hLr
              clear hstep hz hzd hkk hgood hf hd
              have X := Lib.hid (show Tells w (tokOf ys p (seek ys p tries p 0 0)) (.returned (.agg #[.int .i64 (L : Nat), .int .i64 (D : Nat), .int .u8 (X0 : Nat)])) (((wr.setCell ⟨w.heap.size, 0, none⟩ (.int .i64 (L : Nat))).setCell ⟨w.heap.size, 1, none⟩ (.int .i64 (D : Nat))).setCell ⟨w.heap.size, 2, none⟩ (.int .u8 (X0 : Nat))) from by
                refine ⟨?_, below_set (below_set (below_set hb (Nat.le_refl _) _) (Nat.le_refl _) _) (Nat.le_refl _) _⟩
                rw [hsk, SK, hX0, ← HY.out.2.1]
                rfl)
              have HR := Lib.hid (show (((wr.setCell ⟨w.heap.size, 0, none⟩ (.int .i64 (L : Nat))).setCell ⟨w.heap.size, 1, none⟩ (.int .i64 (D : Nat))).setCell ⟨w.heap.size, 2, none⟩ (.int .u8 (X0 : Nat))).heap[w.heap.size]? = some (.cells #[.int .i64 (L : Nat), .int .i64 (D : Nat), .int .u8 (X0 : Nat)] 27 (0, 0)) from by
                rw [block_set (block_set (block_set hr0 _) _) _]; rfl)
              obtain ⟨s0, s1, s2⟩ := box_cells hr0'
              have f0 : ∀ i, wr.frozen? ⟨w.heap.size, i, none⟩ = false := fun i => by simp [World.frozen?, hr0]
              clear hb hsk hX0 hr0 hr0' hr1 SK
              go_wp2_with fail
              refine bodyPost_ret (results_cell_row rfl _ _ w.heap.size 27 #[.int .i64 (L : Nat), .int .i64 (D : Nat), .int .u8 (X0 : Nat)] (0, 0) _ rfl ?hg Try.underlying27 rfl (by kernel_rfl)) rfl ?_
              case hg => exact HR.out
              exact X.out
            · have hstep2 : seek ys p k fr L D = if L < common (restOf ys p) (ys.drop f) then seek ys p kk f (common (restOf ys p) (ys.drop f)) d else seek ys p kk f L D := by
                rw [hstep, if_neg (by omega)]
              have u2 : ((L : Int) == (rl : Int)) = false := by simp; omega
              have u3 : decide (L = rl) = false := by simpa using hLr
              have u4 : (L == rl) = false := by simpa using hLr
              have hcf : ¬ c = f := by omega
              have hfn2 : f ≤ n := by omega
              have hfc : f ≤ c := by omega
              have harg := HF.out.arg.below hb
              have hby : Bytes wr (some ⟨b, off + p, none⟩) rl (restOf ys p) := by
                have h1 := harg.rest (p := p) (by omega)
                have h2 : Arg wr (some ⟨b, off + p, none⟩) (n - p) (n - p) (ys.drop p) := ⟨h1, Nat.le_refl _, fun e => by cases e⟩
                have h3 := (h2.take (k := rl) (by have := HRL.out; unfold restLen at this; rw [HY.out.1] at this; omega)).1
                unfold restOf
                rw [HRL.out]
                exact h3
              have CC := Lib.hid (common_any wr (some ⟨b, off + p, none⟩) rl (c - p) (restOf ys p) (some ⟨b, off + f, none⟩) (n - f) (c - f) (ys.drop f) hby (harg.rest (by omega)) (by have := HRL.out; unfold restLen at this; rw [HY.out.1] at this; omega) (by omega))
              have hcm : common (restOf ys p) (ys.drop f) ≤ 258 := by
                have h1 := common_le (restOf ys p) (ys.drop f)
                rw [restOf_length] at h1
                unfold restLen at h1
                omega
              generalize common (restOf ys p) (ys.drop f) = cm at *
              have HS := Lib.hid (And.intro hsk hstep2)
              have HB := Lib.hid hb
              have HX := Lib.hid hX0
              have HR0 := Lib.hid hr0
              have HR1 := Lib.hid hr1
              clear hstep hstep2 hz hzd hgood hf hd hsk hb hX0 hr0' harg hby hr0 hr1
              have HKK := Lib.hid hkk
              clear hkk
              go_wp2_with fail
              refine CC.out.mono ?_
              rintro e w5 ⟨rfl, hw5⟩
              obtain rfl := hw5.symm
              by_cases hLc : L < cm
              · have hc0 : cm ≠ 0 := by omega
                have X := Lib.hid (show (((wr.setCell ⟨w.heap.size + 1, 0, none⟩ (.int .i64 (cm : Nat))).setCell ⟨w.heap.size + 1, 1, none⟩ (.int .i64 (d : Nat))).setCell ⟨w.heap.size + 1, 2, none⟩ (.int .u8 0)).heap[w.heap.size + 1]? = some (.cells #[.int .i64 (cm : Nat), .int .i64 (d : Nat), .int .u8 ((0 : Nat) : Int)] 27 (0, 0)) ∧
                    (((wr.setCell ⟨w.heap.size + 1, 0, none⟩ (.int .i64 (cm : Nat))).setCell ⟨w.heap.size + 1, 1, none⟩ (.int .i64 (d : Nat))).setCell ⟨w.heap.size + 1, 2, none⟩ (.int .u8 0)).heap[w.heap.size]? = some (.cells #[.int .i64 0, .int .i64 0, .int .u8 0] 27 (0, 0)) ∧
                    Below w.heap.size w (((wr.setCell ⟨w.heap.size + 1, 0, none⟩ (.int .i64 (cm : Nat))).setCell ⟨w.heap.size + 1, 1, none⟩ (.int .i64 (d : Nat))).setCell ⟨w.heap.size + 1, 2, none⟩ (.int .u8 0)) from by
                  refine ⟨by rw [block_set (block_set (block_set HR1.out _) _) _]; rfl, ?_, below_set (below_set (below_set HB.out (by omega) _) (by omega) _) (by omega) _⟩
                  exact (Below.heap_setCell _ _ _ _ (by simp)).trans ((Below.heap_setCell _ _ _ _ (by simp)).trans ((Below.heap_setCell _ _ _ _ (by simp)).trans HR0.out)))
                have f1 : ∀ i, wr.frozen? ⟨w.heap.size + 1, i, none⟩ = false := fun i => by simp [World.frozen?, HR1.out]
                have u5 : decide (L < cm) = true := by simpa using hLc
                go_wp2_with fail
                go_roundw
                case rel => exact ⟨kk, f, cm, d, 0, by have := HKK.out; omega, by rw [show (k : Int) - 1 = (kk : Int) by have := HKK.out; omega], rfl, hfp, hcm, by rw [if_neg hc0], X.out.1, X.out.2.1, X.out.2.2, by rw [HS.out.1, HS.out.2, if_pos hLc]⟩
                case measure => have := HKK.out; simp [intOf] <;> omega
              · have u5 : decide (L < cm) = false := by simpa using hLc
                go_wp2_with fail
                go_roundw
                case rel => exact ⟨kk, f, L, D, X0, by have := HKK.out; omega, by rw [show (k : Int) - 1 = (kk : Int) by have := HKK.out; omega], rfl, hfp, hL, HX.out, HR1.out, HR0.out, HB.out, by rw [HS.out.1, HS.out.2, if_neg hLc]⟩
                case measure => have := HKK.out; simp [intOf] <;> omega
end Go.Proofs.Ytaandnikamnbbaa
