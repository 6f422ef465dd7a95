/- One step of a play: Read of what there is. -/
import Derived.Test.YtccfjpjhkaicgaaV4
namespace Go.Proofs.Ytccfjpjhkaicgaa
open Go.RowKit

/-- What the loop keeps that writes over what was read. -/
def Spoiled (W2 : World) (b q : Nat) (wr : World) : Prop := (∃ zs : List Int, zs.length = q ∧ Row wr b q q zs) ∧ Keeps (fun k => k = b) W2 wr

theorem Spoiled.step {W2 wr : World} {b q : Nat} (h : Spoiled W2 b q wr) (i : Nat) (v : Int) : Spoiled W2 b q (wr.setCell ⟨b, i, none⟩ (.int .u8 v)) := by
  obtain ⟨⟨zs, h1, h2⟩, h3⟩ := h
  exact ⟨⟨zs.set i v, by simpa using h1, h2.set i v⟩, h3.setCell (p := ⟨b, i, none⟩) (fun _ => rfl) _⟩

set_option maxRecDepth 100000 in
set_option maxHeartbeats 1600000 in
theorem step_read_ok (w W : World) (R T : Nat) (m : M) (h : Both w R m T m W) (p q : Nat) (a : Option Addr) (n c : Nat) (hd : m.down = false) (hr : p + q ≤ m.xs.length) :
    Calls Try.prog 10 #[.pointer (some ⟨R, 0, none⟩), .pointer (some ⟨T, 0, none⟩), .agg #[.int .i64 4, .int .i64 p, .int .i64 q, .slice a n c]] W (Stepped w R T) := by
  obtain ⟨E, ct, l, hb, hT, hR, hl, hxs, hfx⟩ := h.cells
  obtain ⟨h0, h1, h2, h3, h4, h5⟩ := twin_cells hb
  have hl0 : m.xs.length ≤ 16777216 := by have := h.ok.len; have := h.ok.cap1; omega
  rw [hd] at h5
  have hsz := h.size
  have ha := (h.alloc #[.int .i64 4, .int .i64 p, .int .i64 q, .slice a n c] 31)
  have hp := ha.pin
  have hOlt := lt_of_block hp
  have C := read_b ha.both hd p q hr
  simp only [World.size_alloc] at C
  have C := Lib.hid C
  have hT' : T < W.heap.size + 1 := by omega
  have h0' : (W.alloc (.cells #[.int .i64 4, .int .i64 p, .int .i64 q, .slice a n c] 31)).cell? ⟨T, 0, none⟩ = some (.slice (headOf E) m.xs.length ct) := by
    rw [← h0]; exact World.cell?_alloc_lt _ _ _ hT
  have h5' : (W.alloc (.cells #[.int .i64 4, .int .i64 p, .int .i64 q, .slice a n c] 31)).cell? ⟨T, 5, none⟩ = some (.bool false) := by
    rw [← h5]; exact World.cell?_alloc_lt _ _ _ hT
  have HX := Lib.hid hxs
  have HFX := Lib.hid hfx
  have t0 : decide ((p : Int) < 0) = false := by simp
  have t1 : decide ((q : Int) < 0) = false := by simp
  have t2 : decide (m.xs.length < p) = false := by simp; omega
  have t3 : decide ((m.xs.length : Int) - p < q) = false := by simp; omega
  have X0 := Lib.hid h0'
  have X5 := Lib.hid h5'
  clear h0 h1 h2 h3 h4 hb hl hxs hfx hd h ha hp h5 h0' h5'
  go_enter Try.func10, Try.ntmps10
  go_wp2_with fail
  refine C.out.mono ?_
  rintro e W1 ⟨rfl, h1, hb1⟩
  have hs1 := hb1.size
  simp only [World.size_alloc] at hs1
  have c0 : W1.cell? ⟨T, 0, none⟩ = some (.slice (headOf E) m.xs.length ct) := (hb1.cell (p := ⟨T, 0, none⟩) (by simpa using hT')).trans X0.out
  have c5 : W1.cell? ⟨T, 5, none⟩ = some (.bool false) := (hb1.cell (p := ⟨T, 5, none⟩) (by simpa using hT')).trans X5.out
  have p1 : W1.cell? ⟨W.heap.size, 1, none⟩ = some (.int .i64 p) := by rw [hb1.cell (p := ⟨W.heap.size, 1, none⟩) (by simp)]; simp
  have p2 : W1.cell? ⟨W.heap.size, 2, none⟩ = some (.int .i64 q) := by rw [hb1.cell (p := ⟨W.heap.size, 2, none⟩) (by simp)]; simp
  have H1 := Lib.hid h1
  have HB1 := Lib.hid hb1
  have hpin := h1.pin
  have HP := Lib.hid hpin
  have SA := Lib.hid (fun k : Nat => show Src (W1.drewN k) (some ⟨W.heap.size + 1, 0, none⟩) q ((m.xs.drop p).take q) by
    refine ⟨by simp; omega, fun y hy => HX.out.2.1 y (List.mem_of_mem_drop (List.mem_of_mem_take hy)), Or.inr ⟨_, rfl, ?_⟩⟩
    have k1 := cell_at (w := W1) (at_ := 0) (n := ((m.xs.drop p).take q).length) (len := ((m.xs.drop p).take q).length) (xs := (m.xs.drop p).take q) hpin (by rw [List.take_of_length_le (by simp)])
    rw [List.drop_zero, List.take_of_length_le (Nat.le_refl _)] at k1
    exact k1)
  have SB := Lib.hid (fun k : Nat => show Src (W1.drewN k) (headOf E) m.xs.length m.xs from HX.out.later (fun i hi => (hb1.block i (by omega)).trans (Below.heap_alloc _ _ _ hi)))
  clear h1 hb1 hpin
  go_wp2_with fail
  go_quiet (fail)
  go_wp2_with fail
  have C0 : (W1.drewN nq).cell? ⟨T, 0, none⟩ = some (.slice (headOf E) m.xs.length ct) := c0
  have P1 : (W1.drewN nq).cell? ⟨W.heap.size, 1, none⟩ = some (.int .i64 p) := p1
  have P2 : (W1.drewN nq).cell? ⟨W.heap.size, 2, none⟩ = some (.int .i64 q) := p2
  have H2 := H1.out.drewN nq
  have SP : Spoiled (W1.drewN nq) (W.heap.size + 1) q (W1.drewN nq) := by
    refine ⟨⟨(m.xs.drop p).take q, by simp; omega, ?_⟩, Keeps.refl _ _⟩
    refine ⟨_, H2.pin, by simp; omega, ?_⟩
    exact List.take_of_length_le (by simp; omega)
  have SA2 : ∀ k : Nat, Src ((W1.drewN nq).drewN k) (some ⟨W.heap.size + 1, 0, none⟩) q ((m.xs.drop p).take q) := fun k => (SA.out nq).later (fun _ _ => rfl)
  have SB2 : ∀ k : Nat, Src ((W1.drewN nq).drewN k) (headOf E) m.xs.length m.xs := fun k => (SB.out nq).later (fun _ _ => rfl)
  generalize hW2 : W1.drewN nq = W2 at *
  have SA := Lib.hid SA2
  have SB := Lib.hid SB2
  have H2 := Lib.hid H2
  have SP := Lib.hid SP
  clear SA2 SB2 hW2 c0 p1 p2 c5
  cases E with
  | none =>
    have hz : m.xs.length = 0 := by
      have h1 := HFX.out.1
      have h2 := HFX.out.2.2 rfl
      omega
    obtain rfl : p = 0 := by omega
    obtain rfl : q = 0 := by omega
    obtain rfl : ct = 0 := HFX.out.2.2 rfl
    rw [hz] at C0
    simp only [headOf, Option.map_none] at C0
    clear hz
    go_quiet ((go_at_call 17; exact Calls.quiet_of_same (same_any _ (src_zero _ _) (src_zero _ _) rfl _ _)))
    go_wp2_with fail
    go_loopw [215] (fun cnt wr => cnt = .int .i64 0 ∧ Spoiled W2 (W.heap.size + 1) 0 wr) (fun _ _ => 0)
    case atStart => exact ⟨rfl, SP.out.1, SP.out.2.drewN _⟩
    case round =>
      obtain ⟨rfl, hm⟩ := hrel
      have X := Lib.hid (Stepped.of (H2.out.written hm.2 (by omega)))
      clear hm
      go_wp2_with fail
      go_ret
      exact X.out
  | some g =>
    simp only [headOf, Option.map_some] at C0
    have hct : m.xs.length ≤ ct := HFX.out.1
    by_cases hc : ct = p
    · obtain rfl : q = 0 := by omega
      clear hct
      go_quiet ((go_at_call 17; exact Calls.quiet_of_same (same_any _ (src_zero _ _) (src_zero _ _) rfl _ _)))
      go_wp2_with fail
      go_loopw [215] (fun cnt wr => cnt = .int .i64 0 ∧ Spoiled W2 (W.heap.size + 1) 0 wr) (fun _ _ => 0)
      case atStart => exact ⟨rfl, SP.out.1, SP.out.2.drewN _⟩
      case round =>
        obtain ⟨rfl, hm⟩ := hrel
        have X := Lib.hid (Stepped.of (H2.out.written hm.2 (by omega)))
        clear hm
        go_wp2_with fail
        go_ret
        exact X.out
    · have hpc : p + q ≤ ct := by omega
      have CT := Lib.hid (fun (k d e : Nat) => show Calls Try.prog 17 #[.slice (some ⟨W.heap.size + 1, 0, none⟩) q d, .slice (some ⟨g, p, none⟩) q e] (W2.drewN k) (fun e w' => e = .returned (.bool true) ∧ w' = W2.drewN k) by
        have p1 := src_part (SB.out k) p q hr
        rw [Nat.zero_add] at p1
        exact same_any _ (SA.out k) p1 rfl d e)
      go_quiet ((go_at_call 17; exact Calls.quiet_of_same (CT.out _ _ _)))
      go_wp2_with fail
      go_loopw [215] (fun cnt wr => ∃ i : Nat, i ≤ q ∧ cnt = .int .i64 i ∧ Spoiled W2 (W.heap.size + 1) q wr) (fun cnt _ => q - (intOf cnt).toNat)
      case atStart => exact ⟨0, Nat.zero_le _, rfl, SP.out.1, SP.out.2.drewN _⟩
      case round =>
        obtain ⟨i, hi, rfl, hm⟩ := hrel
        by_cases hlt : i < q
        · obtain ⟨zs, hz1, hz2⟩ := hm.1
          obtain ⟨z, hz⟩ : ∃ z, zs[i]? = some z := ⟨_, List.getElem?_eq_getElem (by omega)⟩
          have d1 : wr.cell? ⟨W.heap.size + 1, i, none⟩ = some (.int .u8 z) := hz2.cell hz
          have f1 : wr.frozen? ⟨W.heap.size + 1, i, none⟩ = false := hz2.free _
          have MM := Lib.hid hm
          clear hm hz1 hz2 hz
          go_wp2_with fail
          go_roundw
          case rel => exact ⟨i + 1, by omega, by go_num, MM.out.step _ _⟩
          case measure => simp [intOf]; omega
        · have X := Lib.hid (Stepped.of (H2.out.written hm.2 (by omega)))
          clear hm
          go_wp2_with fail
          go_ret
          exact X.out
end Go.Proofs.Ytccfjpjhkaicgaa
