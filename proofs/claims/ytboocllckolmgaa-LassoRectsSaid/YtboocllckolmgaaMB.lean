/- A mask in memory; the walk of a row. -/
import Derived.Test.YtboocllckolmgaaMA
namespace Go.Proofs.Ytboocllckolmgaa
open Go.RowKit
set_option linter.unusedVariables false

/-- A mask of N bytes. -/
def MaskB (w : World) (G N : Nat) (f : Nat → Bool) : Prop :=
  ∃ cur : Array Value, w.heap[G]? = some (.cells cur 5 (0, 0)) ∧ cur.size = N ∧ ∀ j, j < N → cur[j]? = some (.int .u8 (byteB (f j)))
theorem MaskB.lt {w : World} {G N : Nat} {f : Nat → Bool} (h : MaskB w G N f) : G < w.heap.size := by
  obtain ⟨cur, h1, _⟩ := h
  exact lt_of_block h1
theorem MaskB.below {w w' : World} {G N : Nat} {f : Nat → Bool} (h : MaskB w G N f) (hb : Below w.heap.size w w') : MaskB w' G N f := by
  have hl := h.lt
  obtain ⟨cur, h1, h2⟩ := h
  exact ⟨cur, (hb.block G hl).trans h1, h2⟩
theorem MaskB.cell {w : World} {G N j : Nat} {f : Nat → Bool} (h : MaskB w G N f) (hj : j < N) : w.cell? ⟨G, j, none⟩ = some (.int .u8 (byteB (f j))) ∧ w.frozen? ⟨G, j, none⟩ = false := by
  obtain ⟨cur, h1, h2, h3⟩ := h
  exact ⟨by simp [World.cell?, h1, h3 j hj], by simp [World.frozen?, h1]⟩
theorem MaskB.congr {w : World} {G N : Nat} {f f' : Nat → Bool} (h : MaskB w G N f) (he : ∀ j, j < N → f j = f' j) : MaskB w G N f' := by
  obtain ⟨cur, h1, h2, h3⟩ := h
  exact ⟨cur, h1, h2, fun j hj => by rw [← he j hj]; exact h3 j hj⟩
def upd (f : Nat → Bool) (k : Nat) (b : Bool) : Nat → Bool := fun j => if j = k then b else f j
theorem MaskB.set {w : World} {G N k : Nat} {f : Nat → Bool} (h : MaskB w G N f) (hk : k < N) (b : Bool) : MaskB (w.setCell ⟨G, k, none⟩ (.int .u8 (byteB b))) G N (upd f k b) := by
  obtain ⟨cur, h1, h2, h3⟩ := h
  refine ⟨_, block_set h1 _, by simpa using h2, fun j hj => ?_⟩
  unfold upd
  by_cases e : j = k
  · subst e
    rw [Array.getElem?_setIfInBounds_self_of_lt (by omega), if_pos rfl]
  · rw [Array.getElem?_setIfInBounds_ne (fun q => e q.symm), if_neg e]
    exact h3 j hj
theorem mask_new (w : World) (N : Nat) : MaskB (w.alloc (.cells (madeCells #[.int .u8 0] N) 5)) w.heap.size N (fun _ => false) := by
  refine ⟨_, heap_alloc_new _ _, size_madeCells _ _, fun j hj => ?_⟩
  simp [madeCells, hj, byteB, Nat.mod_one]

/-- All but one block are as they were. -/
structure But (G : Nat) (w w' : World) : Prop where
  os : w'.os = w.os
  tape : w'.tape = w.tape
  output : w'.output = w.output
  size : w.heap.size ≤ w'.heap.size
  block : ∀ k, k < w.heap.size → k ≠ G → w'.heap[k]? = w.heap[k]?
theorem But.refl (G : Nat) (w : World) : But G w w := ⟨rfl, rfl, rfl, Nat.le_refl _, fun _ _ _ => rfl⟩
theorem But.trans {G : Nat} {w w1 w2 : World} (h : But G w w1) (g : But G w1 w2) : But G w w2 :=
  ⟨g.os.trans h.os, g.tape.trans h.tape, g.output.trans h.output, Nat.le_trans h.size g.size, fun k hk hG => (g.block k (Nat.lt_of_lt_of_le hk h.size) hG).trans (h.block k hk hG)⟩
theorem But.of {G : Nat} {w w' : World} (h : Below w.heap.size w w') : But G w w' := ⟨h.os, h.tape, h.output, h.size, fun k hk _ => h.block k hk⟩
theorem But.set (G j : Nat) (w : World) (v : Value) : But G w (w.setCell ⟨G, j, none⟩ v) :=
  ⟨rfl, rfl, rfl, by simp [World.setCell], fun k hk hG => Below.heap_setCell _ _ _ _ (by simpa using hG)⟩
theorem But.row2 {G : Nat} {w w' : World} {g n i : Nat} {ty : TypeId} {vs : List (Value × Value)} (h : But G w w') (hr : Row2 w g n i ty vs) (hg : g ≠ G) : Row2 w' g n i ty vs := by
  have hl := hr.lt
  obtain ⟨cur, h1, h2⟩ := hr
  exact ⟨cur, (h.block g hl hg).trans h1, h2⟩
theorem But.below {G B : Nat} {w0 w w' : World} (h : But G w w') (h0 : Below B w0 w) (hG : B ≤ G) (hB : B ≤ w0.heap.size) : Below B w0 w' :=
  h0.trans ⟨h.os, h.tape, h.output, h.size, fun k hk => h.block k (Nat.lt_of_lt_of_le hk (Nat.le_trans hB h0.size)) (by omega)⟩

/-- The row while marks are laid; while they are told from the right. -/
def markF (O W : Nat) (rs : List Int) (f : Nat → Bool) : Nat → Bool := fun j => if O ≤ j ∧ j < O + W then markB W rs (j - O) else f j
def layF (O W m : Nat) (rs : List Int) (f : Nat → Bool) : Nat → Bool := fun j => if O ≤ j ∧ j < O + W then (if m ≤ j - O then sufB W rs (j - O) else markB W rs (j - O)) else f j
theorem mark_start {O W N : Nat} {f : Nat → Bool} (hz : ∀ j, j < W → f (O + j) = false) : ∀ j, j < N → f j = markF O W [] f j := by
  intro j _
  unfold markF
  split
  · rename_i h
    have := hz (j - O) (by omega)
    rw [show O + (j - O) = j by omega] at this
    rw [this]; rfl
  · rfl
theorem mark_set {O W N k : Nat} {rs : List Int} {r : Int} {f : Nat → Bool} (hk : k < W) (hr : min r (W : Int) = (k : Int) + 1) : ∀ j, j < N → upd (markF O W rs f) (O + k) (markF O W rs f (O + k) != true) j = markF O W (rs ++ [r]) f j := by
  intro j _
  unfold upd markF
  by_cases e : j = O + k
  · subst e
    rw [if_pos rfl, if_pos (by omega), if_pos (by omega), mark_more]
    have : decide (min r (W : Int) = ((O + k - O : Nat) : Int) + 1) = true := by
      rw [decide_eq_true_eq, hr]; omega
    rw [this]
  · rw [if_neg e]
    by_cases h : O ≤ j ∧ j < O + W
    · rw [if_pos h, if_pos h, mark_more]
      have : decide (min r (W : Int) = ((j - O : Nat) : Int) + 1) = false := by
        rw [decide_eq_false_iff_not, hr]; omega
      rw [this]
      simp
    · rw [if_neg h, if_neg h]
theorem mark_none {O W N : Nat} {rs : List Int} {r : Int} {f : Nat → Bool} (hr : ¬ 0 < min r (W : Int)) : ∀ j, j < N → markF O W rs f j = markF O W (rs ++ [r]) f j := by
  intro j _
  unfold markF
  split
  · rw [mark_more]
    have : decide (min r (W : Int) = ((j - O : Nat) : Int) + 1) = false := by
      rw [decide_eq_false_iff_not]; omega
    rw [this]
    simp
  · rfl
theorem lay_start {O W N : Nat} {rs : List Int} {f : Nat → Bool} : ∀ j, j < N → markF O W rs f j = layF O W W rs f j := by
  intro j _
  unfold markF layF
  split
  · rw [if_neg (by omega)]
  · rfl
theorem lay_set {O W N k : Nat} {rs : List Int} {f : Nat → Bool} (hk : k < W) : ∀ j, j < N → upd (layF O W (k + 1) rs f) (O + k) (sufB W rs (k + 1) != layF O W (k + 1) rs f (O + k)) j = layF O W k rs f j := by
  intro j _
  unfold upd layF
  by_cases e : j = O + k
  · subst e
    have c1 : O ≤ O + k ∧ O + k < O + W := by omega
    have c2 : ¬ (k + 1 ≤ O + k - O) := by omega
    have c3 : k ≤ O + k - O := by omega
    rw [if_pos rfl, if_pos c1, if_pos c1, if_neg c2, if_pos c3, show O + k - O = k by omega]
    exact (suf_step W rs k).symm
  · rw [if_neg e]
    by_cases h : O ≤ j ∧ j < O + W
    · rw [if_pos h, if_pos h]
      by_cases h2 : k + 1 ≤ j - O
      · rw [if_pos h2, if_pos (by omega)]
      · rw [if_neg h2, if_neg (by omega)]
    · rw [if_neg h, if_neg h]
theorem lay_value {O W k : Nat} {rs : List Int} {f : Nat → Bool} (hk : k < W) : (sufB W rs (k + 1) != layF O W (k + 1) rs f (O + k)) = sufB W rs k := by
  unfold layF
  rw [if_pos (by omega), if_neg (by omega), show O + k - O = k by omega]
  exact (suf_step W rs k).symm

set_option maxRecDepth 100000 in
set_option maxHeartbeats 3200000 in
theorem layRow_any (w : World) (G O W N cap g n : Nat) (ss : List (Pt × Pt)) (y : Int) (f : Nat → Bool) (hm : MaskB w G N f) (hO : O + W ≤ N) (hz : ∀ j, j < W → f (O + j) = false)
    (hr : Row2 w g n n 57 (ss.map sdv)) (hg : g ≠ G) (hl : ss.length = n) (hn : n ≤ 256) (hW : W ≤ 32768) (hnear : ∀ s ∈ ss, near s.1 = true ∧ near s.2 = true) (hy : near ⟨0, y⟩ = true) :
    Calls Try.prog 29 #[.slice (some ⟨G, O, none⟩) W cap, .slice (some ⟨g, 0, none⟩) n n, .int .i64 y] w (fun e w' => e = .returned (.tuple #[]) ∧ MaskB w' G N (layF O W 0 (reachL ss y) f) ∧ But G w w') := by
  have HM := Lib.hid (hm.congr (mark_start (N := N) hz))
  have HR := Lib.hid hr
  have HL := Lib.hid (And.intro hl (And.intro hnear hy))
  clear hm hz hr hl hnear hy
  go_enter Try.func29, Try.ntmps29
  go_wp2_with fail
  go_loopw [13] (fun cnt wr => ∃ i : Nat, i ≤ n ∧ cnt = .int .i64 i ∧ MaskB wr G N (markF O W ((reachL ss y).take i) f) ∧ But G w wr) (fun cnt _ => n - (intOf cnt).toNat)
  case atStart => exact ⟨0, Nat.zero_le _, rfl, HM.out, But.refl _ _⟩
  case round =>
    obtain ⟨i, hi, rfl, hmk, hb⟩ := hrel
    by_cases hlt : i < n
    · obtain ⟨s, hsi⟩ : ∃ s, ss[i]? = some s := ⟨_, List.getElem?_eq_getElem (by rw [HL.out.1]; exact hlt)⟩
      obtain ⟨c0, c1⟩ := (hb.row2 HR.out hg).at (j := i) (v := sdv s) hlt (by rw [List.getElem?_map, hsi]; rfl)
      unfold sdv at c0 c1
      simp only at c0 c1
      obtain ⟨n1, n2⟩ := HL.out.2.1 s (List.mem_of_getElem? hsi)
      have tk : (reachL ss y).take (i + 1) = (reachL ss y).take i ++ [reachZ s.1 s.2 ⟨0, y⟩] := take_more (by unfold reachL; rw [List.getElem?_map, hsi]; rfl)
      have ba : Below wr.heap.size wr (wr.alloc (.cells #[.complex .f64 (fb s.1.X) (fb s.1.Y), .complex .f64 (fb s.2.X) (fb s.2.Y)] 57)) := (Below.refl _ _).alloc (Nat.le_refl _) _
      have CR := Lib.hid (reach_any (wr.alloc (.cells #[.complex .f64 (fb s.1.X) (fb s.1.Y), .complex .f64 (fb s.2.X) (fb s.2.Y)] 57)) s.1 s.2 ⟨0, y⟩ n1 n2 HL.out.2.2)
      have HM2 := Lib.hid (And.intro (hmk.below ba) (hb.trans (But.of ba)))
      have hst := store_complex
      have TK := Lib.hid tk
      clear hmk hb n1 n2 hsi tk ba
      generalize fb s.1.X = p1 at *
      generalize fb s.1.Y = p2 at *
      generalize fb s.2.X = p3 at *
      generalize fb s.2.Y = p4 at *
      generalize reachZ s.1 s.2 ⟨0, y⟩ = R at *
      obtain ⟨M, hM⟩ : ∃ M, (if (W : Int) < R then (W : Int) else R) = M := ⟨_, rfl⟩
      have hMm : min R (W : Int) = M := by rw [← hM]; split <;> omega
      have hMW : M ≤ (W : Int) := by omega
      by_cases hpos : 0 < M
      · have u : decide (0 < M) = true := by simpa using hpos
        obtain ⟨k, hk⟩ : ∃ k : Nat, M = (k : Int) + 1 := ⟨(M - 1).toNat, by omega⟩
        have hkW : k < W := by omega
        have k1 : IntKind.i64.wrap (M - 1) = (k : Int) := by rw [wrap_i64 _ (by omega) (by omega)]; omega
        have HK := Lib.hid (show min R (W : Int) = (k : Int) + 1 by omega)
        clear hMm hk
        go_wp2_with fail
        refine CR.out.mono ?_
        rintro e w5 ⟨rfl, hb⟩
        have HM3 := Lib.hid (And.intro (HM2.out.1.below hb) (HM2.out.2.trans (But.of hb)))
        clear hb CR HM2 c0 c1
        obtain ⟨d0, d1⟩ := HM3.out.1.cell (j := O + k) (by omega)
        have hx : bits .xor .u8 (byteB (markF O W ((reachL ss y).take i) f (O + k))) 255 = byteB (markF O W ((reachL ss y).take i) f (O + k) != true) := xor_bytes _ true
        have Y := Lib.hid (And.intro ((HM3.out.1.set (k := O + k) (by omega) (markF O W ((reachL ss y).take i) f (O + k) != true)).congr (mark_set (r := R) hkW HK.out)) (HM3.out.2.trans (But.set G (O + k) w5 (.int .u8 (byteB (markF O W ((reachL ss y).take i) f (O + k) != true))))))
        rw [← TK.out] at Y
        generalize byteB (markF O W ((reachL ss y).take i) f (O + k) != true) = b2 at *
        generalize byteB (markF O W ((reachL ss y).take i) f (O + k)) = b1 at *
        clear HM3
        go_wp2_with fail
        go_roundw
        case rel => exact ⟨i + 1, hlt, by go_num, Y.out.1, Y.out.2⟩
        case measure => simp [intOf]; omega
      · have u : decide (0 < M) = false := by simpa using hpos
        have HK := Lib.hid (show ¬ 0 < min R (W : Int) by omega)
        clear hMm
        go_wp2_with fail
        refine CR.out.mono ?_
        rintro e w5 ⟨rfl, hb⟩
        have Y := Lib.hid (And.intro ((HM2.out.1.below hb).congr (mark_none (r := R) (by have := HK.out; omega))) (HM2.out.2.trans (But.of hb)))
        rw [← TK.out] at Y
        clear hb CR HM2 c0 c1
        go_wp2_with fail
        go_roundw
        case rel => exact ⟨i + 1, hlt, by go_num, Y.out.1, Y.out.2⟩
        case measure => simp [intOf]; omega
    · obtain rfl : i = n := by omega
      rw [List.take_of_length_le (by unfold reachL; rw [List.length_map, HL.out.1]; exact Nat.le_refl _)] at hmk
      have HM2 := Lib.hid (And.intro (hmk.congr lay_start) hb)
      clear hmk hb
      obtain ⟨rs, hrs⟩ : ∃ rs, rs = reachL ss y := ⟨_, rfl⟩
      rw [← hrs] at HM2
      have HRS := Lib.hid hrs
      clear hrs
      have HE := Lib.hid (suf_end W rs)
      go_wp2_with fail
      go_loopw [9, 10] (fun vo vx wl => ∃ (m : Nat) (x : Int), m ≤ W ∧ x = (m : Int) - 1 ∧ vx = .int .i64 x ∧ vo = .int .u8 (byteB (sufB W rs m)) ∧ MaskB wl G N (layF O W m rs f) ∧ But G w wl) (fun _ vx _ => ((intOf vx) + 1).toNat)
      case atStart => exact ⟨W, (W : Int) - 1, Nat.le_refl _, rfl, rfl, by rw [HE.out]; rfl, HM2.out.1, HM2.out.2⟩
      case round =>
        clear HM2
        obtain ⟨m, x, hm, hx, rfl, rfl, hmk, hb⟩ := hrel
        by_cases hpos : 0 ≤ x
        · obtain ⟨k, rfl⟩ := Int.eq_ofNat_of_zero_le hpos
          obtain rfl : m = k + 1 := by omega
          have hkW : k < W := by omega
          have u : decide (0 ≤ (k : Int)) = true := by simp
          obtain ⟨d0, d1⟩ := hmk.cell (j := O + k) (by omega)
          have hxo : bits .xor .u8 (byteB (sufB W rs (k + 1))) (byteB (layF O W (k + 1) rs f (O + k))) = byteB (sufB W rs k) := by rw [xor_bytes, lay_value hkW]
          have k1 : IntKind.i64.wrap ((k : Int) - 1) = (k : Int) - 1 := wrap_i64 _ (by omega) (by omega)
          have Y := Lib.hid (And.intro ((hmk.set (k := O + k) (by omega) (sufB W rs (k + 1) != layF O W (k + 1) rs f (O + k))).congr (lay_set hkW)) (hb.trans (But.set G (O + k) wr (.int .u8 (byteB (sufB W rs (k + 1) != layF O W (k + 1) rs f (O + k)))))))
          rw [lay_value hkW] at Y
          have hk0 : (k : Int) < (W : Int) := by omega
          clear hmk hb hx hpos
          generalize byteB (layF O W (k + 1) rs f (O + k)) = b1 at *
          generalize byteB (sufB W rs (k + 1)) = b2 at *
          generalize hb3 : byteB (sufB W rs k) = b3 at *
          go_wp2_with fail
          go_roundw
          case rel => exact ⟨k, (k : Int) - 1, by omega, rfl, rfl, by rw [hb3], Y.out.1, Y.out.2⟩
          case measure => first | (simp [intOf]; done) | (simp [intOf]; omega)
        · obtain rfl : m = 0 := by omega
          have X := Lib.hid (And.intro hmk hb)
          have u : decide (0 ≤ x) = false := by simpa using hpos
          clear hmk hb hx hpos
          go_wp2_with fail
          go_end0
          have k := X.out
          rw [HRS.out] at k
          exact ⟨rfl, k⟩
end Go.Proofs.Ytboocllckolmgaa
