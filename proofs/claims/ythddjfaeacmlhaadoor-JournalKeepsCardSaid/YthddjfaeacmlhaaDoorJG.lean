/- The contracts of the document's Big and Record. -/
import Derived.Test.YthddjfaeacmlhaaDoorJF
namespace Go.Proofs.YthddjfaeacmlhaaDoor
open Go.RowKit Jr
set_option linter.unusedVariables false

/-- The four bytes, as far as they are laid. -/
def laid4 (N j : Nat) : Array Value :=
  #[.int .u8 (if 4 ≤ j then (N / 16777216 % 256 : Nat) else 0), .int .u8 (if 3 ≤ j then (N / 65536 % 256 : Nat) else 0), .int .u8 (if 2 ≤ j then (N / 256 % 256 : Nat) else 0), .int .u8 (if 1 ≤ j then (N % 256 : Nat) else 0)]
theorem laid4_set (N j : Nat) (hj : j < 4) : (laid4 N j).setIfInBounds (3 - j) (.int .u8 ((N / 256 ^ j % 256 : Nat) : Int)) = laid4 N (j + 1) := by
  match j, hj with
  | 0, _ => simp [laid4]
  | 1, _ => simp [laid4]
  | 2, _ => simp [laid4]
  | 3, _ => simp [laid4]
theorem laid4_done (N : Nat) : (laid4 N 4).toList = bys (big4 N) := by simp [laid4, bys, big4]
theorem block_set {w : World} {R i : Nat} {c : Array Value} {t : TypeId} {f : Nat × Nat} (h : w.heap[R]? = some (.cells c t f)) (u : Value) :
    (w.setCell ⟨R, i, none⟩ u).heap[R]? = some (.cells (c.setIfInBounds i u) t f) := by
  simp only [World.setCell, Array.getElem?_modify, h]
  simp
theorem below_set {B : Nat} {w w1 : World} (h : Below B w w1) {p : Addr} (hp : B ≤ p.block) (v : Value) : Below B w (w1.setCell p v) :=
  ⟨h.os, h.tape, h.output, by simp [World.setCell]; exact h.size, fun k hk => (Below.heap_setCell _ _ _ _ (by omega)).trans (h.block k hk)⟩
theorem own_full {w : World} {B g : Nat} {cs : Array Value} {n : Nat} (h : w.heap[g]? = some (.cells cs 5 (0, 0))) (hn : cs.size = n) (hm : n ≤ maxLen) (hB : B ≤ g) : w.ownsRow B 5 1 (.slice (some ⟨g, 0, none⟩) n n) n cs.toList :=
  ⟨by simp [hn], Or.inr ⟨g, n, cs, rfl, hB, h, Nat.le_refl _, hm, by simp [hn], by rw [List.take_of_length_le (by simp [hn])]⟩⟩

theorem made4 : madeCells #[.int .u8 0] 4 = #[.int .u8 0, .int .u8 0, .int .u8 0, .int .u8 0] := by kernel_rfl
/-- What Big tells. -/
def Told4 (w : World) (N : Nat) (e : Ending) (w' : World) : Prop :=
  ∃ aa, e = .returned (.slice aa 4 4) ∧ w'.ownsRow w.heap.size 5 1 (.slice aa 4 4) 4 (bys (big4 N)) ∧ Below w.heap.size w w'
set_option maxRecDepth 100000 in
set_option maxHeartbeats 1600000 in
theorem big_any (w : World) (N : Nat) (hN : N < 4294967296) : Calls Tryd.prog 30 #[.int .i64 N, .int .i64 4] w (Told4 w N) := by
  go_enter Tryd.func30, Tryd.ntmps30
  go_wp2_with (at_make; go_must (refine wpList_make_cap rfl (.tmp 7) (.tmp 7) rfl 4 4 rfl rfl (by omega) (by omega) ?c2))
  case c2 =>
    intro w1 _ hblk hb1
    have HB := Lib.hid hb1
    have HK := Lib.hid (show w1.heap[w.heap.size]? = some (.cells (laid4 N 0) 5 (0, 0)) from by rw [hblk, made4]; simp [laid4])
    have hs1 : w.heap.size < w1.heap.size := lt_of_block hblk
    clear hb1 hblk
    go_wp2_with fail
    go_loopw [0, 6] (fun r cnt wr => ∃ j : Nat, j ≤ 4 ∧ cnt = .int .i64 (3 - (j : Int)) ∧ r = .int .i64 ((N / 256 ^ j : Nat) : Int) ∧ wr.heap[w.heap.size]? = some (.cells (laid4 N j) 5 (0, 0)) ∧ Below w.heap.size w wr) (fun _ cnt _ => (intOf cnt + 1).toNat)
    case atStart => exact ⟨0, by omega, rfl, by rw [Nat.pow_zero, Nat.div_one], HK.out, HB.out⟩
    case round =>
      obtain ⟨j, hj, rfl, rfl, hblk, hb⟩ := hrel
      by_cases h4 : j < 4
      · obtain ⟨i, hi⟩ : ∃ i, i = 3 - j := ⟨_, rfl⟩
        have ei : (3 : Int) - (j : Int) = (i : Int) := by omega
        rw [ei]
        have HS := Lib.hid (laid4_set N j h4)
        have HJ := Lib.hid (And.intro hi h4)
        have hlv : N / 256 ^ j ≤ N := Nat.div_le_self _ _
        have hnx : N / 256 ^ (j + 1) = N / 256 ^ j / 256 := by rw [Nat.pow_succ, Nat.div_div_eq_div_mul]
        have hcell : ∃ u, wr.cell? ⟨w.heap.size, i, none⟩ = some u := by
          have : i < (laid4 N j).size := by simp [laid4]; omega
          exact ⟨(laid4 N j)[i], by simp [World.cell?, hblk, this]⟩
        obtain ⟨u, hu⟩ := hcell
        have hfr : wr.frozen? ⟨w.heap.size, i, none⟩ = false := by simp [World.frozen?, hblk]
        have hi4 : i < 4 := by omega
        have HB2 := Lib.hid (And.intro hblk hb)
        have HNX := Lib.hid hnx
        generalize N / 256 ^ j = v at *
        have hm : IntKind.u8.wrap (v : Int) = ((v % 256 : Nat) : Int) := by rw [IntKind.wrap_u8']; omega
        clear hblk hb hnx hi h4 hj ei
        go_wp2_with fail
        go_roundw
        case rel =>
          obtain ⟨hi, hj⟩ := HJ.out
          refine ⟨j + 1, by omega, ?_, ?_, ?_, ?_⟩
          · congr 1; omega
          · rw [HNX.out]; simp
          · rw [← HS.out, ← hi]
            have k := block_set (i := i) HB2.out.1 (.int .u8 ((v % 256 : Nat) : Int))
            simpa using k
          · exact below_set HB2.out.2 (Nat.le_refl _) _
        case measure => simp only [intOf]; omega
      · obtain rfl : j = 4 := by omega
        have X := Lib.hid (show Told4 w N (.returned (.slice (some ⟨w.heap.size, 0, none⟩) 4 4)) wr from by
          have k := own_full (B := w.heap.size) hblk (by simp [laid4]) (by unfold maxLen; omega) (Nat.le_refl _) (n := 4)
          rw [laid4_done] at k
          exact ⟨_, rfl, k, hb⟩)
        clear hblk hb
        go_wp2
        go_ret
        exact X.out

theorem own_base {w : World} {B B' e size n : Nat} {v : Value} {xs : List Value} (h : w.ownsRow B e size v n xs) (hB : B' ≤ B) : w.ownsRow B' e size v n xs := by
  obtain ⟨h1, h2⟩ := h
  refine ⟨h1, ?_⟩
  rcases h2 with h2 | ⟨g, cap, cur, e, hg, r⟩
  · exact Or.inl h2
  · exact Or.inr ⟨g, cap, cur, e, by omega, r⟩
/-- What the document's Record tells. -/
def DocMade (w : World) (p : List Nat) (e : Ending) (w' : World) : Prop :=
  ∃ aa c, e = .returned (.slice aa (p.length + 8) c) ∧ w'.ownsRow w.heap.size 5 1 (.slice aa (p.length + 8) c) (p.length + 8) (bys (recd p)) ∧ Below w.heap.size w w'
set_option maxHeartbeats 1600000 in
theorem docRecord_any (w : World) (a : Option Addr) (n c : Nat) (p : List Nat) (h : Arg w a n c p) (hn : n ≤ 8388608) :
    Calls Tryd.prog 14 #[.slice a n c] w (DocMade w p) := by
  have HA := Lib.hid h
  have HL := Lib.hid h.len
  have C1 := Lib.hid (big_any w n (by omega))
  clear h
  go_enter Tryd.func14, Tryd.ntmps14
  go_wp2_with fail
  refine C1.out.mono ?_
  rintro e w1 ⟨a1, rfl, ho1, hb1⟩
  have k1 := arg_of_own ho1 (big4_byte n)
  have C2 := Lib.hid (join_any w1 a1 4 4 (big4 n) a n c p (by omega) (by omega) k1.1 k1.2.2 (HA.out.below hb1).1 HA.out.2.2)
  have HB1 := Lib.hid hb1
  clear ho1 hb1 k1
  go_wp2_with fail
  refine C2.out.mono ?_
  rintro e w2 ⟨a2, c2, rfl, ho2, hb2⟩
  have ef : big4 n ++ p = front p := by unfold front; rw [HL.out]
  rw [ef] at ho2 ⊢
  have el : (front p).length = n + 4 := by rw [front_length, HL.out]
  rw [el] at ho2 ⊢
  have hfb : Byte (front p) := front_byte HA.out.byte
  have k2 := arg_of_own ho2 hfb
  have hlt := Sums.crc_lt (front p) hfb
  have C3 := Lib.hid (docCrc_any w2 a2 (n + 4) c2 (front p) (by omega) k2.1)
  have C4 := Lib.hid (big_any w2 (Sums.crc (front p)) (by omega))
  have HBs := Lib.hid hb2.size
  have HB2 := Lib.hid (below_more HB1.out hb2 (Nat.le_refl _))
  have HO2 := Lib.hid ho2
  have HR := Lib.hid (show front p ++ big4 (Sums.crc (front p)) = recd p from rfl)
  have hs1 := HB1.out.size
  clear ho2 hb2 k2 ef el hfb hlt
  generalize Sums.crc (front p) = s at *
  go_wp2_with fail
  refine C3.out.mono ?_
  rintro e w3 ⟨rfl, rfl⟩
  go_wp2_with fail
  refine C4.out.mono ?_
  rintro e w4 ⟨a4, rfl, ho4, hb4⟩
  have hO := own_kept HO2.out (fun k e => hb4.block k (HO2.out.lt k e).2)
  have k4 := arg_of_own ho4 (big4_byte s)
  have HB4 := Lib.hid (below_more HB2.out hb4 (Nat.le_refl _))
  have HO4 := Lib.hid (And.intro hO k4)
  have hs4 : w1.heap.size ≤ w4.heap.size := Nat.le_trans HBs.out hb4.size
  clear ho4 hb4 hO k4
  go_wp2_with (at_builtin; go_must (refine wpList_append_text rfl (.tmp 9) (.tmp 12) rfl w1.heap.size (n + 4) (.slice a2 (n + 4) c2) (front p) rfl HO4.out.1 a4 4 4 (big4 s) rfl HO4.out.2.1 HO4.out.2.2.2 (by omega) (by omega) hs4 ?e4))
  intro a5 c5 w5 ho5 hg5 hat5
  have X := Lib.hid (show DocMade w p (.returned (.slice a5 (n + 4 + 4) c5)) w5 from by
    have e : n + 4 + 4 = p.length + 8 := by have := HL.out; omega
    rw [HR.out] at ho5
    have hb5 := grown_below (Nat.le_refl _) HB4.out hg5 (fun k e => Nat.le_trans hs1 (HO2.out.lt k e).1)
    have ho6 := own_base ho5 hs1
    rw [e] at ho6 ⊢
    exact ⟨a5, c5, rfl, ho6, hb5⟩)
  clear ho5 hg5 hat5
  go_wp2_with fail
  go_ret
  exact X.out
end Go.Proofs.YthddjfaeacmlhaaDoor
