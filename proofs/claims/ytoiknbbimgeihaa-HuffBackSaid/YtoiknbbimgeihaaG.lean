/- The walk of the document's Least. -/
import Derived.Test.YtoiknbbimgeihaaF
import Derived.Deep.RegionLaw
import Derived.BigRegion
import Derived.RegionTactic
namespace Go.Proofs.Ytoiknbbimgeihaa
open Go.RowKit
set_option linter.unusedVariables false

theorem tails_more {cs : List Nat} {lo c : Nat} (h : cs[lo]? = some c) : tails cs lo lo = tails cs (lo + 1) (lo + 1) + (c : Int) := by
  unfold tails
  rw [if_pos (Nat.le_refl _), if_pos (Nat.le_refl _), drop_cons h, List.sum_cons]
  omega
theorem tails_else (cs : List Nat) (lo j : Nat) (h : j ≠ lo) : tails cs lo j = tails cs (lo + 1) j := by
  unfold tails
  by_cases h1 : lo ≤ j
  · rw [if_pos h1, if_pos (by omega)]
  · rw [if_neg h1, if_neg (by omega)]
theorem tails_bound (cs : List Nat) (lo j : Nat) : 0 ≤ tails cs lo j ∧ tails cs lo j ≤ (cs.sum : Nat) := by
  unfold tails
  split
  · have := drop_sum_le cs j; omega
  · omega

theorem below_drew {B : Nat} {w w1 : World} (h : Below B w w1) : Below B w w1.drew := ⟨h.os, h.tape, h.output, h.size, h.block⟩

/-- The sums are laid, and a matrix of which nothing is known. -/
structure Init (w : World) (cs : List Nat) (n g : Nat) (W : World) : Prop where
  row : Row W w.heap.size (n + 1) (tails cs 0)
  mat : Mat W g n (n + 1) (g + 1) (fun _ _ => 0)
  bel : Below w.heap.size w W
  lt : w.heap.size < g
theorem Init.kept {w W W' : World} {cs : List Nat} {n g : Nat} (h : Init w cs n g W) (hk : ∀ k, k < g + 1 → W'.heap[k]? = W.heap[k]?) (hb : Below w.heap.size w W') : Init w cs n g W' :=
  ⟨h.row.later (hk _ (by have := h.lt; omega)), h.mat.later hk, hb, h.lt⟩
theorem Init.glt {w W : World} {cs : List Nat} {n g : Nat} (h : Init w cs n g W) : g < W.heap.size := by
  obtain ⟨cur, h1, _⟩ := h.mat.cells
  exact lt_of_block h1
theorem Init.alloc {w W : World} {cs : List Nat} {n g : Nat} (h : Init w cs n g W) (o : Obj) : Init w cs n g (W.alloc o) :=
  h.kept (fun k hk => Below.heap_alloc _ _ _ (by have := h.glt; omega)) (h.bel.alloc (by have := h.glt; have := h.lt; omega) o)
theorem Init.other {w W : World} {cs : List Nat} {n g b i : Nat} (h : Init w cs n g W) (hb : g < b) (v : Value) : Init w cs n g (W.setCell ⟨b, i, none⟩ v) :=
  h.kept (fun k hk => Below.heap_setCell _ _ _ _ (by simp only; omega)) (below_set h.bel (by have := h.lt; omega) v)
theorem Init.spot_set {w W : World} {cs : List Nat} {n g i : Nat} (h : Init w cs n g W) (v : Value) : Init w cs n g (W.setCell ⟨g, i, none⟩ v) := by
  refine ⟨h.row.later (Below.heap_setCell _ _ _ _ (by have := h.lt; simp only; omega)), ?_, below_set h.bel (by have := h.lt; omega) v, h.lt⟩
  obtain ⟨cur, k1, k2, k3⟩ := h.mat.cells
  refine ⟨by omega, cur.setIfInBounds i v, ?_, by simpa using k2, fun i hi hn => by omega⟩
  simp only [World.setCell, Array.getElem?_modify, k1]
  simp
theorem cell_set (w : World) (g i : Nat) (u v : Value) (h : w.cell? ⟨g, i, none⟩ = some u) : (w.setCell ⟨g, i, none⟩ v).cell? ⟨g, i, none⟩ = some v := by
  simp only [World.cell?] at h ⊢
  simp only [World.setCell, Array.getElem?_modify]
  cases hb : w.heap[g]? with
  | none => rw [hb] at h; simp at h
  | some o =>
    rw [hb] at h
    cases o with
    | cells c e f =>
      simp only at h
      have hl : i < c.size := (Array.getElem?_eq_some_iff.1 h).1
      simp [Array.getElem?_setIfInBounds_self_of_lt hl]
    | _ => simp at h

theorem Mat.join {w : World} {g n i b : Nat} {G : Nat → Nat → Int} (h : Mat w g n (i + 1) b G) (hi : i ≤ n) (hc : w.cell? ⟨g, i, none⟩ = some (.slice (some ⟨b, 0, none⟩) (n + 1) (n + 1))) (hr : Row w b (n + 1) (G i)) : Mat w g n i (b + 1) G := by
  obtain ⟨hlt, cur, k1, k2, k3⟩ := h
  refine ⟨by omega, cur, k1, k2, fun j hj hn => ?_⟩
  by_cases e : i = j
  · subst e
    refine ⟨b, ?_, by omega, by omega, hr⟩
    simpa [World.cell?, k1] using hc
  · obtain ⟨b', q1, q2, q3, q4⟩ := k3 j (by omega) hn
    exact ⟨b', q1, q2, by omega, q4⟩

/-- A level under way: the matrix below it, the sums, the rows of this one from lo on. -/
structure Lev (w : World) (cs : List Nat) (n g lo0 : Nat) (F : Nat → Nat → Int) (gN lo : Nat) (G : Nat → Nat → Int) (W : World) : Prop where
  best : Mat W g n lo0 gN F
  now : Mat W gN n lo W.heap.size G
  sums : Row W w.heap.size (n + 1) (tails cs 0)
  bel : Below w.heap.size w W
  lt : w.heap.size < g
/-- A row of it under way. -/
structure Cur (w : World) (cs : List Nat) (n g lo0 : Nat) (F : Nat → Nat → Int) (gN : Nat) (G : Nat → Nat → Int) (i b p : Nat) (W : World) : Prop where
  best : Mat W g n lo0 gN F
  now : Mat W gN n (i + 1) b G
  cell : W.cell? ⟨gN, i, none⟩ = some (.slice (some ⟨b, 0, none⟩) (n + 1) (n + 1))
  row : Row W b (n + 1) (fun j => if j < p then G i j else 0)
  sums : Row W w.heap.size (n + 1) (tails cs 0)
  bel : Below w.heap.size w W
  lt : w.heap.size < g
theorem Cur.done {w W : World} {cs : List Nat} {n g lo0 gN i b : Nat} {F G : Nat → Nat → Int} (h : Cur w cs n g lo0 F gN G i b (n + 1) W) (hi : i ≤ n) : Lev w cs n g lo0 F gN i G W :=
  ⟨h.best, (h.now.join hi h.cell (h.row.congr (fun j hj => by rw [if_pos hj]))).grow (by have := h.row.lt; omega), h.sums, h.bel, h.lt⟩
theorem Lev.begin {w W : World} {cs : List Nat} {n g lo0 gN i : Nat} {F G : Nat → Nat → Int} (h : Lev w cs n g lo0 F gN (i + 1) G W) (hi : i ≤ n) :
    Cur w cs n g lo0 F gN G i W.heap.size 0 ((W.alloc (.cells (madeCells #[.int .i64 0] (n + 1)) 3)).setCell ⟨gN, i, none⟩ (.slice (some ⟨W.heap.size, 0, none⟩) (n + 1) (n + 1))) := by
  have hgN := h.now.lt
  have hg := h.best.lt
  have hl := h.lt
  have up : ∀ k, k < W.heap.size → k ≠ gN → ((W.alloc (.cells (madeCells #[.int .i64 0] (n + 1)) 3)).setCell ⟨gN, i, none⟩ (.slice (some ⟨W.heap.size, 0, none⟩) (n + 1) (n + 1))).heap[k]? = W.heap[k]? := fun k hk hne =>
    (Below.heap_setCell _ _ _ _ (by simpa using hne)).trans (Below.heap_alloc _ _ _ hk)
  obtain ⟨old, hold, _⟩ := (h.now.later (w' := W.alloc (.cells (madeCells #[.int .i64 0] (n + 1)) 3)) (fun k hk => Below.heap_alloc _ _ _ hk)).spot hi
  refine ⟨h.best.later (fun k hk => up k (by omega) (by omega)), ?_, cell_set _ _ _ _ _ hold, ?_, h.sums.later (up _ (by omega) (by omega)), below_set (h.bel.alloc (by omega) _) (by omega) _, hl⟩
  · obtain ⟨hlt, cur, k1, k2, k3⟩ := h.now
    refine ⟨hlt, cur.setIfInBounds i (.slice (some ⟨W.heap.size, 0, none⟩) (n + 1) (n + 1)), ?_, by simpa using k2, fun j hj hn => ?_⟩
    · have e := (Below.heap_alloc W (.cells (madeCells #[.int .i64 0] (n + 1)) 3) gN hlt).trans k1
      simp only [World.setCell, Array.getElem?_modify, e]
      simp
    · obtain ⟨b', q1, q2, q3, q4⟩ := k3 j hj hn
      exact ⟨b', by rw [Array.getElem?_setIfInBounds_ne (by omega)]; exact q1, q2, q3, q4.later (up b' q3 q2)⟩
  · refine ((made_row W (n + 1)).later (Below.heap_setCell _ _ _ _ (by simp only; omega))).congr (fun j hj => ?_)
    rw [if_neg (by omega)]
theorem Cur.step {w W W' : World} {cs : List Nat} {n g lo0 gN i b p : Nat} {F G : Nat → Nat → Int} {z : Int} (h : Cur w cs n g lo0 F gN G i b p W) (hb : Below W.heap.size W W') (hp : p < n + 1) (hz : z = G i p) :
    Cur w cs n g lo0 F gN G i b (p + 1) (W'.setCell ⟨b, p, none⟩ (.int .i64 z)) := by
  have hgN := h.now.lt
  have hg := h.best.lt
  have hl := h.lt
  have hbl := h.row.lt
  have up : ∀ k, k < W.heap.size → k ≠ b → (W'.setCell ⟨b, p, none⟩ (.int .i64 z)).heap[k]? = W.heap[k]? := fun k hk hne =>
    (Below.heap_setCell _ _ _ _ (by simpa using hne)).trans (hb.block k hk)
  refine ⟨h.best.later (fun k hk => up k (by omega) (by omega)), h.now.later (fun k hk => up k (by omega) (by omega)), (World.cell?_of_block (w := W) (up gN (by omega) (by omega))).trans h.cell, ?_, h.sums.later (up _ (by omega) (by omega)), ?_, hl⟩
  · refine (h.row.later (hb.block b hbl)).set hp (fun j hj => ?_)
    by_cases e : j = p
    · rw [if_pos e, if_pos (by omega), hz, e]
    · rw [if_neg e]
      by_cases e2 : j < p
      · rw [if_pos e2, if_pos (by omega)]
      · rw [if_neg e2, if_neg (by omega)]
  · refine below_set (h.bel.trans ⟨hb.os, hb.tape, hb.output, hb.size, fun k hk => hb.block k (by omega)⟩) (by omega) _

theorem level_cur {w W : World} {cs : List Nat} {n g lo0 gN i b p d m : Nat} {F G : Nat → Nat → Int} (h : Cur w cs n g lo0 F gN G i b p W) (hn : n ≤ 300) (hlen : cs.length = n) (hs : cs.sum ≤ 1125899906842624) (hm : m ≤ 16) (hd : d ≤ m) (hi : i ≤ n) (hp : p ≤ n)
    (hF : d < m → lo0 = 0 ∧ ∀ i p, i ≤ n → p ≤ n → F i p = enc (Huff.least (m - 1 - d) (cs.drop i) p)) (hG : ∀ i p, i ≤ n → p ≤ n → G i p = enc (Huff.least (m - d) (cs.drop i) p)) (c1 c2 c3 : Nat) :
    Calls Try.prog 25 #[.slice (some ⟨g, 0, none⟩) (n + 1) c1, .slice (some ⟨gN, 0, none⟩) (n + 1) c2, .slice (some ⟨w.heap.size, 0, none⟩) (n + 1) c3, .agg #[.int .i64 i, .int .i64 p, .int .i64 d], .int .i64 m] W fun e w' => e = .returned (.int .i64 (G i p)) ∧ Below W.heap.size W w' := by
  by_cases hin : i = n
  · subst hin
    have e : G i p = 0 := by
      rw [hG i p (Nat.le_refl _) hp, List.drop_eq_nil_of_le (by omega), Huff.least_nil]
      rfl
    rw [e]
    exact level_end W _ _ _ i c3 p d m (by omega)
  · have hil : i < cs.length := by omega
    obtain ⟨c0, hc0⟩ : ∃ c0, cs[i]? = some c0 := ⟨_, List.getElem?_eq_getElem hil⟩
    have hdrop := drop_cons hc0
    have hI : Ints W (some ⟨w.heap.size, 0, none⟩) (n + 1) ((List.range (n + 1)).map (tails cs 0)) := by
      refine h.sums.ints (by simp) ?_ ?_
      · intro z hz
        obtain ⟨j, _, rfl⟩ := List.mem_map.1 hz
        have := tails_bound cs 0 j
        omega
      · intro j hj
        rw [List.getElem?_map, List.getElem?_range hj]
        rfl
    have hS : ((List.range (n + 1)).map (tails cs 0))[i]? = some (((cs.drop i).sum : Nat) : Int) := by
      rw [List.getElem?_map, List.getElem?_range (by omega)]
      rfl
    have hsl := drop_sum_le cs i
    have hsl1 := drop_sum_le cs (i + 1)
    have hk : ∀ k l, k ≤ 16 → l ≤ n → -1 ≤ enc (Huff.least k (cs.drop l) p) → True := fun _ _ _ _ _ => trivial
    have bnd : ∀ k l q, k ≤ 16 → -1 ≤ enc (Huff.least k (cs.drop l) q) ∧ enc (Huff.least k (cs.drop l) q) ≤ 1152921504606846976 := by
      intro k l q hk16
      obtain ⟨b1, b2⟩ := enc_bound k (cs.drop l) q
      have := drop_sum_le cs l
      have h3 : k * (cs.drop l).sum ≤ 16 * 1125899906842624 := Nat.mul_le_mul hk16 (by omega)
      omega
    have C := level_any W (some ⟨g, 0, none⟩) (some ⟨gN, 0, none⟩) (n + 1) c1 (n + 1) c2 (some ⟨w.heap.size, 0, none⟩) n c3 i p d m (enc (Huff.least (m - d) (cs.drop (i + 1)) (p - 1))) (enc (Huff.least (m - d - 1) (cs.drop i) (2 * p))) ((cs.drop i).sum : Nat) _ (by omega) (by omega) (by omega) hI hS
      (bnd _ _ _ (by omega)) (bnd _ _ _ (by omega)) (by omega)
      (fun hp0 => by
        have k := h.now.at2 (i := i + 1) (p := p - 1) (Nat.le_refl _) (by omega) (by omega)
        rw [hG (i + 1) (p - 1) (by omega) (by omega)] at k
        exact k)
      (fun hp0 hdm => by
        obtain ⟨hlo, hF2⟩ := hF hdm
        have k := h.best.at2 (i := i) (p := min (2 * p) n) (by omega) hi (by omega)
        rw [hF2 i _ hi (by omega), Huff.least_cap _ _ _ _ (by rw [List.length_drop]; omega), show m - 1 - d = m - d - 1 by omega] at k
        exact k)
    rw [hdrop] at C
    have e := lvl_least (m - d) c0 (cs.drop (i + 1)) i n p d m (by omega) (by omega)
    rw [e, ← hdrop] at C
    rw [hG i p hi hp]
    exact C

/-- A level that is done. -/
structure Base (w : World) (cs : List Nat) (n g lo0 : Nat) (F : Nat → Nat → Int) (W : World) : Prop where
  mat : Mat W g n lo0 W.heap.size F
  sums : Row W w.heap.size (n + 1) (tails cs 0)
  bel : Below w.heap.size w W
  lt : w.heap.size < g
theorem Init.base {w W : World} {cs : List Nat} {n g : Nat} (h : Init w cs n g W) : Base w cs n g (n + 1) (fun _ _ => 0) W := ⟨h.mat.grow (by have := h.glt; omega), h.row, h.bel, h.lt⟩
theorem Base.lev {w W : World} {cs : List Nat} {n g lo0 : Nat} {F : Nat → Nat → Int} (h : Base w cs n g lo0 F W) (G : Nat → Nat → Int) :
    Lev w cs n g lo0 F W.heap.size (n + 1) G (W.alloc (.cells (madeCells #[.slice none 0 0] (n + 1)) 22)) := by
  have hl := h.lt
  have hg := h.mat.lt
  exact ⟨h.mat.later (fun k hk => Below.heap_alloc _ _ _ hk), (made_mat W n _ G).grow (by simp), h.sums.later (Below.heap_alloc _ _ _ (by omega)), h.bel.alloc (by omega) _, hl⟩
theorem Lev.base {w W : World} {cs : List Nat} {n g lo0 gN : Nat} {F G : Nat → Nat → Int} (h : Lev w cs n g lo0 F gN 0 G W) : Base w cs n gN 0 G W := ⟨h.now, h.sums, h.bel, by have := h.best.lt; have := h.lt; omega⟩

set_option maxRecDepth 100000 in
set_option maxHeartbeats 3000000 in
theorem docLeast_any (w : World) (a : Option Addr) (n c : Nat) (cs : List Nat) (h : Ints w a n (ints cs)) (hn2 : 2 ≤ n) (hn : n ≤ 300) (hs : cs.sum ≤ 1125899906842624) (r : Nat) (hr : r ≤ 15) :
    Calls Try.prog 13 #[.slice a n c, .int .i64 ((r + 1 : Nat) : Int)] w fun e w' => e = .returned (.int .i64 (enc (Huff.least r cs 2) + (cs.sum : Nat))) ∧ Below w.heap.size w w' := by
  have HA := Lib.hid h
  have u0 : ((n : Int) == 0) = false := by simp; omega
  have u1 : ((n : Int) == 1) = false := by simp; omega
  have hlen : cs.length = n := by have := h.1; simpa [ints] using this
  have hmk := run_make_row' (P := Try.prog) 22 3 (.int .i64 0) 8 Try.underlying22 info3 rfl .i64 .i64 (n + 1) (by omega) (by omega)
  have hmk2 := run_make_row' (P := Try.prog) 43 22 (.slice none 0 0) 24 Try.underlying43 info22 rfl .i64 .i64 (n + 1) (by omega) (by omega)
  obtain ⟨m, hm⟩ : ∃ m, m = r + 1 := ⟨_, rfl⟩
  rw [← hm]
  obtain ⟨n1, hn1⟩ : ∃ n1, n1 = n + 1 := ⟨_, rfl⟩
  rw [← hn1] at hmk hmk2
  have en : (n : Int) + 1 = (n1 : Int) := by omega
  have HM := Lib.hid (And.intro hm (And.intro hn1 hlen))
  clear h hm hn1 hlen
  go_enter Try.func13, Try.ntmps13
  go_wp2
  go_loopw [7] (fun cnt wr => ∃ lo : Nat, lo ≤ n ∧ cnt = .int .i64 ((lo : Int) - 1) ∧ Row wr w.heap.size n1 (tails cs lo) ∧ Below w.heap.size w wr) (fun cnt _ => (intOf cnt + 1).toNat)
  case atStart =>
    refine ⟨n, Nat.le_refl _, rfl, (made_row w n1).congr (fun j hj => ?_), (Below.refl _ _).alloc (Nat.le_refl _) _⟩
    unfold tails
    split
    · rw [List.drop_eq_nil_of_le (by have := HM.out.2.2; omega)]; rfl
    · rfl
  case round =>
    obtain ⟨lo, hlo, rfl, hrow, hbel⟩ := hrel
    by_cases h0 : lo = 0
    · subst h0
      have hn1 := HM.out.2.1
      have hlt := hrow.lt
      obtain ⟨g, hg⟩ : ∃ g, g = wr.heap.size := ⟨_, rfl⟩
      have hI : Init w cs n g (wr.alloc (.cells (madeCells #[.slice none 0 0] n1) 22)) := by
        rw [hg, hn1]
        refine ⟨(hn1 ▸ hrow).later (Below.heap_alloc _ _ _ hlt), made_mat wr n _ _, hbel.alloc (by omega) _, hlt⟩
      have HG := Lib.hid hg
      have X := Lib.hid hI
      clear hrow hbel hI hn1 hlt hg
      go_wp2
      rw [← HG.out]
      go_loopw [9, 10] (fun cnt _ wr => ∃ i : Nat, i ≤ n + 1 ∧ cnt = .int .i64 i ∧ Init w cs n g wr) (fun cnt _ _ => n + 1 - (intOf cnt).toNat)
      case atStart => exact ⟨0, Nat.zero_le _, rfl, X.out⟩
      case round =>
        obtain ⟨i, hi, rfl, hI⟩ := hrel
        by_cases hin : i ≤ n
        · have v : decide ((i : Int) ≤ (n : Int)) = true := by simp; omega
          have hn1 := HM.out.2.1
          have hglt := hI.glt
          obtain ⟨old, hold, hfr⟩ := (hI.alloc (.cells (madeCells #[.int .i64 0] n1) 3)).mat.spot hin
          obtain ⟨b, hb⟩ : ∃ b, b = wr.heap.size := ⟨_, rfl⟩
          have hgb : g < b := by omega
          have X := Lib.hid (show Init w cs n g ((wr.alloc (.cells (madeCells #[.int .i64 0] n1) 3)).setCell ⟨g, i, none⟩ (.slice (some ⟨b, 0, none⟩) n1 n1)) ∧ ((wr.alloc (.cells (madeCells #[.int .i64 0] n1) 3)).setCell ⟨g, i, none⟩ (.slice (some ⟨b, 0, none⟩) n1 n1)).cell? ⟨g, i, none⟩ = some (.slice (some ⟨b, 0, none⟩) n1 n1) ∧ Row ((wr.alloc (.cells (madeCells #[.int .i64 0] n1) 3)).setCell ⟨g, i, none⟩ (.slice (some ⟨b, 0, none⟩) n1 n1)) b n1 (fun _ => 0) from
            ⟨(hI.alloc _).spot_set _, cell_set _ _ _ _ _ hold, (hb ▸ made_row wr n1).later (Below.heap_setCell _ _ _ _ (by simp only; omega))⟩)
          have HB := Lib.hid hb
          have i1 : (i : Int) < (n1 : Int) := by omega
          clear hI hb hglt hn1
          go_wp2
          rw [← HB.out]
          go_loopw [10] (fun cnt wr => ∃ p : Nat, p ≤ n1 ∧ cnt = .int .i64 p ∧ Init w cs n g wr ∧ wr.cell? ⟨g, i, none⟩ = some (.slice (some ⟨b, 0, none⟩) n1 n1) ∧ ∃ f, Row wr b n1 f) (fun cnt _ => n1 - (intOf cnt).toNat)
          case atStart => exact ⟨0, Nat.zero_le _, rfl, X.out.1, X.out.2.1, _, X.out.2.2⟩
          case round =>
            clear X hold hfr
            obtain ⟨p, hp, rfl, hI, hcell, f, hrow⟩ := hrel
            have hn1 := HM.out.2.1
            by_cases hpn : p ≤ n
            · have v2 : decide ((p : Int) ≤ (n : Int)) = true := by simp; omega
              have i2 : (p : Int) < (n1 : Int) := by omega
              by_cases hin2 : i < n
              · have v3 : decide ((i : Int) < (n : Int)) = true := by simp; omega
                obtain ⟨k1, k2⟩ := hrow.cell (show p < n1 by omega)
                have X := Lib.hid (show Init w cs n g (wr.setCell ⟨b, p, none⟩ (.int .i64 (-1))) ∧ (wr.setCell ⟨b, p, none⟩ (.int .i64 (-1))).cell? ⟨g, i, none⟩ = some (.slice (some ⟨b, 0, none⟩) n1 n1) ∧ Row (wr.setCell ⟨b, p, none⟩ (.int .i64 (-1))) b n1 (fun j => if j = p then -1 else f j) from
                  ⟨hI.other hgb _, (World.cell?_of_block (w := wr) (Below.heap_setCell _ _ _ _ (by simp only; omega))).trans hcell, hrow.set (by omega) (fun j hj => rfl)⟩)
                have hold : ∃ z, wr.cell? ⟨b, p, none⟩ = some (.int .i64 z) := ⟨_, k1⟩
                obtain ⟨z, hz⟩ := hold
                clear hI hrow k1 hn1
                go_wp2
                go_roundw
                case rel => exact ⟨p + 1, by omega, by go_num, X.out.1, X.out.2.1, _, X.out.2.2⟩
                case measure => simp [intOf]; omega
              · have v3 : decide ((i : Int) < (n : Int)) = false := by simp; omega
                have X := Lib.hid (And.intro hI (And.intro hcell hrow))
                clear hI hcell hrow hn1
                go_wp2
                go_roundw
                case rel => exact ⟨p + 1, by omega, by go_num, X.out.1, X.out.2.1, _, X.out.2.2⟩
                case measure => simp [intOf]; omega
            · have v2 : decide ((p : Int) ≤ (n : Int)) = false := by simp; omega
              have X := Lib.hid hI
              clear hI hcell hrow hn1
              go_wp2
              go_roundw
              case rel => exact ⟨i + 1, by omega, by go_num, X.out⟩
              case measure => simp [intOf]; omega
        · have v : decide ((i : Int) ≤ (n : Int)) = false := by simp; omega
          have H := Lib.hid hI.base
          clear hI
          go_wp2
          clear HG X
          go_loopw [8, 11] (fun bv dv wr => ∃ (d g lo0 : Nat) (F : Nat → Nat → Int), d ≤ m ∧ dv = .int .i64 d ∧ bv = .slice (some ⟨g, 0, none⟩) n1 n1 ∧ Base w cs n g lo0 F wr ∧ (d < m → lo0 = 0 ∧ ∀ i p, i ≤ n → p ≤ n → F i p = enc (Huff.least (m - 1 - d) (cs.drop i) p))) (fun _ dv _ => (intOf dv).toNat)
          case atStart => exact ⟨m, g, n + 1, fun _ _ => 0, Nat.le_refl _, rfl, rfl, H.out, fun h => by omega⟩
          case round =>
            clear H
            obtain ⟨d, g, lo0, F, hd, rfl, rfl, hB, hF⟩ := hrel
            by_cases hd0 : d = 0
            · subst hd0
              have hn1 := HM.out.2.1
              obtain ⟨hlo, hFF⟩ := hF (by have := HM.out.1; omega)
              obtain ⟨b, o, a2, b', o', c', e1, _, k1, _, e2, k2⟩ := hB.mat.at2 (i := 0) (p := 2) (by omega) (by omega) (by omega)
              cases e1
              subst e2
              have k3 := (hB.sums.cell (show 0 < n + 1 by omega)).1
              rw [hFF 0 2 (by omega) (by omega), List.drop_zero, show m - 1 - 0 = r by have := HM.out.1; omega] at k2
              rw [show tails cs 0 0 = ((cs.sum : Nat) : Int) by unfold tails; simp] at k3
              obtain ⟨x1, x2⟩ := enc_bound r cs 2
              have x3 : r * cs.sum ≤ 15 * 1125899906842624 := Nat.mul_le_mul hr hs
              have HBB := Lib.hid hB.bel
              rw [← hn1] at k1
              generalize hez : enc (Huff.least r cs 2) = z at *
              generalize heS : cs.sum = S at *
              have HE := Lib.hid (And.intro hez heS)
              clear hez heS
              have i1 : (2 : Int) < (n1 : Int) := by omega
              have i0 : (0 : Int) < (n1 : Int) := by omega
              have hwz : IntKind.i64.wrap (z + (S : Int)) = z + (S : Int) := wrap_i64 _ (by omega) (by omega)
              clear hB hF hFF hn1 x3
              go_wp2
              go_quiet (fail)
              go_wp2
              go_ret
              exact ⟨by rw [HE.out.1, HE.out.2]; rfl, ⟨HBB.out.os, HBB.out.tape, HBB.out.output, HBB.out.size, HBB.out.block⟩⟩
            · have v1 : decide ((1 : Int) ≤ (d : Int)) = true := by simp; omega
              obtain ⟨G, hG⟩ : ∃ G : Nat → Nat → Int, G = fun i p => enc (Huff.least (m - d) (cs.drop i) p) := ⟨_, rfl⟩
              have hn1 := HM.out.2.1
              have hL : Lev w cs n g lo0 F wr.heap.size (n + 1) G (wr.alloc (.cells (madeCells #[.slice none 0 0] n1) 22)) := by rw [hn1]; exact hB.lev G
              obtain ⟨gN, hgN⟩ : ∃ gN, gN = wr.heap.size := ⟨_, rfl⟩
              rw [← hgN] at hL
              have HL := Lib.hid hL
              have HF := Lib.hid hF
              have HG := Lib.hid hG
              have HN := Lib.hid hgN
              clear hL hF hG hB hgN hn1
              go_wp2
              rw [← HN.out]
              go_loopw [13] (fun iv wr => ∃ lo : Nat, lo ≤ n + 1 ∧ iv = .int .i64 ((lo : Int) - 1) ∧ Lev w cs n g lo0 F gN lo G wr) (fun iv _ => (intOf iv + 1).toNat)
              case atStart => exact ⟨n + 1, Nat.le_refl _, by simp, HL.out⟩
              case round =>
                clear HL
                obtain ⟨lo, hlo, rfl, hL⟩ := hrel
                by_cases hlo0 : lo = 0
                · subst hlo0
                  obtain ⟨d1, rfl⟩ : ∃ d1, d = d1 + 1 := ⟨d - 1, by omega⟩
                  have ed : ((d1 + 1 : Nat) : Int) - 1 = (d1 : Int) := by omega
                  obtain ⟨d2, hd2⟩ : ∃ d2, d2 = d1 + 1 := ⟨_, rfl⟩
                  rw [← hd2] at ed v1 ⊢
                  have X := Lib.hid hL.base
                  have HD := Lib.hid hd2
                  have hdb : d1 ≤ 300 := by have := HM.out.1; omega
                  have HGG := Lib.hid (show ∀ i p, G i p = enc (Huff.least (m - 1 - d1) (cs.drop i) p) from fun i p => by rw [HG.out, show m - 1 - d1 = m - (d1 + 1) by omega])
                  have hd1 : d1 ≤ m := by omega
                  clear hL hd2
                  go_wp2
                  go_roundw
                  case rel => exact ⟨d1, gN, 0, G, hd1, rfl, rfl, X.out, fun _ => ⟨rfl, fun i p _ _ => HGG.out i p⟩⟩
                  case measure => have := HD.out; simp [intOf]
                · obtain ⟨i, rfl⟩ : ∃ i, lo = i + 1 := ⟨lo - 1, by omega⟩
                  have ei : ((i + 1 : Nat) : Int) - 1 = (i : Int) := by omega
                  rw [ei]
                  have hn1 := HM.out.2.1
                  obtain ⟨old, hold, hfr⟩ := (hL.now.later (w' := wr.alloc (.cells (madeCells #[.int .i64 0] n1) 3)) (fun k hk => Below.heap_alloc _ _ _ hk)).spot (show i ≤ n by omega)
                  have hC : Cur w cs n g lo0 F gN G i wr.heap.size 0 ((wr.alloc (.cells (madeCells #[.int .i64 0] n1) 3)).setCell ⟨gN, i, none⟩ (.slice (some ⟨wr.heap.size, 0, none⟩) n1 n1)) := by rw [hn1]; exact hL.begin (by omega)
                  obtain ⟨b, hb⟩ : ∃ b, b = wr.heap.size := ⟨_, rfl⟩
                  rw [← hb] at hC
                  have HC := Lib.hid hC
                  have HB := Lib.hid hb
                  have i1 : (i : Int) < (n1 : Int) := by omega
                  clear hL hC hb hn1
                  go_wp2
                  rw [← HB.out]
                  go_loopw [14] (fun pv wr => ∃ p : Nat, p ≤ n1 ∧ pv = .int .i64 p ∧ Cur w cs n g lo0 F gN G i b p wr) (fun pv _ => n1 - (intOf pv).toNat)
                  case atStart => exact ⟨0, Nat.zero_le _, rfl, HC.out⟩
                  case round =>
                    clear HC hold hfr
                    obtain ⟨p, hp, rfl, hC⟩ := hrel
                    have hn1 := HM.out.2.1
                    by_cases hpn : p ≤ n
                    · have v2 : decide ((p : Int) ≤ (n : Int)) = true := by simp; omega
                      have i2 : (p : Int) < (n1 : Int) := by omega
                      have hm16 : m ≤ 16 := by have := HM.out.1; omega
                      have hcell := hC.cell
                      rw [← hn1] at hcell
                      have hmor := hC.row.lt
                      have CL := Lib.hid (fun (W : World) (hw : ∀ k, k < wr.heap.size → W.heap[k]? = wr.heap[k]?) (hb : Below w.heap.size w W) => level_cur (d := d) (m := m) (show Cur w cs n g lo0 F gN G i b p W from
                        ⟨hC.best.later (fun k hk => hw k (by have := hC.now.lt; omega)), hC.now.later (fun k hk => hw k (by omega)), (World.cell?_of_block (w := wr) (hw _ (by have := hC.now.lt; simp only; omega))).trans hC.cell, hC.row.later (hw _ hmor), hC.sums.later (hw _ (by have := hC.now.lt; have := hC.best.lt; have := hC.lt; omega)), hb, hC.lt⟩) hn HM.out.2.2 hs hm16 hd (by omega) hpn HF.out (fun i p _ _ => by rw [HG.out]) n1 n1 n1)
                      have X := Lib.hid (fun (W' : World) (hb : Below wr.heap.size wr W') => hC.step hb (show p < n + 1 by omega) rfl)
                      have U := Lib.hid (fun (W' : World) (hb : Below wr.heap.size wr W') => show (∃ z, W'.cell? ⟨b, p, none⟩ = some (.int .i64 z)) ∧ W'.frozen? ⟨b, p, none⟩ = false ∧ W'.cell? ⟨gN, i, none⟩ = some (.slice (some ⟨b, 0, none⟩) n1 n1) from
                        ⟨⟨_, ((hC.row.later (hb.block _ hmor)).cell (show p < n + 1 by omega)).1⟩, ((hC.row.later (hb.block _ hmor)).cell (show p < n + 1 by omega)).2, (World.cell?_of_block (w := wr) (hb.block _ (by have := hC.now.lt; simp only; omega))).trans hcell⟩)
                      have HW := Lib.hid hC.bel
                      generalize G i p = z at *
                      clear hC hn1
                      have ca := CL.out wr.drew (fun _ _ => rfl) (below_drew HW.out)
                      rw [← HM.out.2.1] at ca
                      have CA := Lib.hid ca
                      clear ca
                      go_wp2
                      go_region_law (go_simp; (go_at_call 25; refine CA.out.mono ?_; rintro e wa ⟨rfl, hba⟩; have hba2 : Below wr.heap.size wr wa := ⟨hba.os, hba.tape, hba.output, hba.size, hba.block⟩; obtain ⟨⟨z0, hz0⟩, hf0, hc0⟩ := U.out wa hba2))
                      all_goals
                        have X2 := Lib.hid (X.out wa hba2)
                        clear hz0 hf0 hc0
                        go_wp2
                        go_roundw
                        case rel =>
                          refine ⟨_, _, _, _, _, _, _, _, _, _, _, _, _, _, _, _, _, _, _, _, _, ⟨p + 1, by omega, ?e, X2.out⟩, rfl⟩
                          case e => go_num
                        case measure => simp [intOf]; omega
                    · have v2 : decide ((p : Int) ≤ (n : Int)) = false := by simp; omega
                      have hpe : p = n + 1 := by omega
                      rw [hpe] at hC
                      have X := Lib.hid (hC.done (by omega))
                      clear hC hn1 hpe
                      go_wp2
                      go_roundw
                      case rel => exact ⟨i, by omega, rfl, X.out⟩
                      case measure => simp [intOf]
    · obtain ⟨i, rfl⟩ : ∃ i, lo = i + 1 := ⟨lo - 1, by omega⟩
      have ei : ((i + 1 : Nat) : Int) - 1 = (i : Int) := by omega
      rw [ei]
      obtain ⟨b, o, z, rfl, hz, hzb, hcz⟩ := (HA.out.below hbel).at (show i < n by omega)
      obtain ⟨c0, hc0, rfl⟩ := ints_get hz
      have hold := hrow.cell (show i < n1 by have := HM.out.2.1; omega)
      have hnx := hrow.cell (show i + 1 < n1 by have := HM.out.2.1; omega)
      have htm := tails_more hc0
      have htb := tails_bound cs (i + 1) (i + 1)
      have htb2 := tails_bound cs i i
      have X := Lib.hid (fun v : Int => fun hv : v = tails cs i i => And.intro (hrow.set (f' := tails cs i) (z := v) (show i < n1 by have := HM.out.2.1; omega) (fun j hj => by
        by_cases e : j = i
        · subst e; rw [if_pos rfl, hv]
        · rw [if_neg e, tails_else cs i j e])) (below_set (i := i) hbel (Nat.le_refl _) (.int .i64 v)))
      have i1 : (i : Int) < (n1 : Int) := by have := HM.out.2.1; omega
      have i2 : (i : Int) + 1 < (n1 : Int) := by have := HM.out.2.1; omega
      have i3 : (i : Int) < (n : Int) := by omega
      clear hrow hbel hz hzb hc0
      generalize tails cs (i + 1) (i + 1) = t1 at *
      generalize tails cs (i + 1) i = t0 at *
      generalize tails cs i i = t2 at *
      have HT := Lib.hid htm
      obtain ⟨hold1, hold2⟩ := hold
      obtain ⟨hnx1, hnx2⟩ := hnx
      obtain ⟨j1, hj1⟩ : ∃ j1, j1 = i + 1 := ⟨_, rfl⟩
      rw [← hj1] at hnx1 hnx2
      have ej : (i : Int) + 1 = (j1 : Int) := by omega
      have ij : (j1 : Int) < (n1 : Int) := by omega
      have hwi : IntKind.i64.wrap (j1 : Int) = (j1 : Int) := wrap_i64 _ (by omega) (by omega)
      have hwi2 : IntKind.i64.wrap ((i : Int) + 1) = (j1 : Int) := by rw [ej]; exact hwi
      clear hj1 i2
      have hwt : IntKind.i64.wrap (t1 + (c0 : Int)) = t2 := by rw [← htm]; exact wrap_i64 _ (by omega) (by omega)
      have hwt2 : wrap64 (t1 + (c0 : Int)) = t2 := by rw [← htm]; exact IntWalk.wrap64_in _ (by omega)
      clear htm
      go_wp2
      go_still_tail 13, (by kernel_rfl)
      change wpList _ _ _ _ _ wr.drew
      go_wp2
      go_roundw
      case rel => exact ⟨i, by omega, rfl, ((X.out t2 rfl).1 : Row _ _ _ _), below_drew (X.out t2 rfl).2⟩
      case measure => simp [intOf]
end Go.Proofs.Ytoiknbbimgeihaa
