/- Tables, by the program. -/
import Derived.Test.YtfofghakjjblfaaDoorPUd
namespace Go.Proofs.YtfofghakjjblfaaDoor
open Go.RowKit
set_option linter.unusedVariables false

theorem repl_levels (w : World) (a : Option Addr) (n c : Nat) (zs : List Int) (hnc : n ≤ c) (h : Ints w a n zs) (v : Int) (hv : Px.Byte v) (hf : Px.Fits 0 zs) : Calls Tryd.prog 34 #[.int .i64 0, .slice a n c, .int .i64 v] w fun e w' => e = .returned (.int .i64 (Px.repl 0 zs v)) ∧ Keeps none' w w' := by
  obtain ⟨hB, ⟨_, hl, hlt⟩ | ⟨q, _⟩ | ⟨q, _⟩ | ⟨q, _⟩⟩ := hf
  · have C := Lib.hid (fun w => level_any (Px.pt zs 0) (Px.pt zs 1) v (Px.pt_byte hB 0) (Px.pt_byte hB 1) hv hlt w)
    rw [show Px.repl 0 zs v = Px.level (Px.pt zs 0) (Px.pt zs 1) v from rfl]
    obtain rfl : n = 2 := by rw [← h.1]; exact hl
    obtain ⟨b, off, rfl, -, hc0⟩ := h.at (i := 0) (by omega)
    obtain ⟨b', off', e', -, hc1⟩ := h.at (i := 1) (by omega)
    cases e'
    rw [Nat.add_zero] at hc0
    clear h hB hlt hl
    generalize Px.level (Px.pt zs 0) (Px.pt zs 1) v = r at *
    generalize Px.pt zs 0 = p0 at *
    generalize Px.pt zs 1 = p1 at *
    go_enter Tryd.func34, Tryd.ntmps34
    go_wp2_with fail
    go_quiet ((go_at_call 45; refine Calls.quiet_of_same (C.out _)))
    go_wp2_with fail
    go_ret
    exact ⟨rfl, (Keeps.refl _ _).drewN _⟩
  all_goals exact absurd q (by decide)
theorem repl_curve (w : World) (a : Option Addr) (n c : Nat) (zs : List Int) (hnc : n ≤ c) (h : Ints w a n zs) (v : Int) (hv : Px.Byte v) (hf : Px.Fits 1 zs) : Calls Tryd.prog 34 #[.int .i64 1, .slice a n c, .int .i64 v] w fun e w' => e = .returned (.int .i64 (Px.repl 1 zs v)) ∧ Keeps none' w w' := by
  obtain ⟨hB, ⟨q, _⟩ | ⟨_, hp⟩ | ⟨q, _⟩ | ⟨q, _⟩⟩ := hf
  · exact absurd q (by decide)
  · have C := Lib.hid (onCurve_any w a n c zs hnc h hp hB v hv)
    rw [show Px.repl 1 zs v = Px.curve zs v from rfl]
    clear h hB hp
    generalize Px.curve zs v = r at *
    go_enter Tryd.func34, Tryd.ntmps34
    go_wp2_with fail
    refine C.out.mono ?_
    rintro e w' ⟨rfl, hk⟩
    have HK := Lib.hid hk
    clear hk
    go_wp2_with fail
    go_ret
    exact ⟨rfl, HK.out⟩
  all_goals exact absurd q (by decide)
theorem repl_invert (w : World) (a : Option Addr) (n c : Nat) (zs : List Int) (hnc : n ≤ c) (h : Ints w a n zs) (v : Int) (hv : Px.Byte v) : Calls Tryd.prog 34 #[.int .i64 2, .slice a n c, .int .i64 v] w fun e w' => e = .returned (.int .i64 (Px.repl 2 zs v)) ∧ Keeps none' w w' := by
  rw [show Px.repl 2 zs v = 255 - v from rfl]
  obtain ⟨v0, v1⟩ := hv
  clear h
  go_enter Tryd.func34, Tryd.ntmps34
  go_wp2_with fail
  go_ret
  exact ⟨rfl, Keeps.refl _ _⟩
theorem repl_threshold (w : World) (a : Option Addr) (n c : Nat) (zs : List Int) (hnc : n ≤ c) (h : Ints w a n zs) (v : Int) (hv : Px.Byte v) (hf : Px.Fits 3 zs) : Calls Tryd.prog 34 #[.int .i64 3, .slice a n c, .int .i64 v] w fun e w' => e = .returned (.int .i64 (Px.repl 3 zs v)) ∧ Keeps none' w w' := by
  obtain ⟨hB, ⟨q, _⟩ | ⟨q, _⟩ | ⟨q, _⟩ | ⟨_, hl⟩⟩ := hf
  · exact absurd q (by decide)
  · exact absurd q (by decide)
  · exact absurd q (by decide)
  · have C := Lib.hid (fun w => cut_any (Px.pt zs 0) v w)
    rw [show Px.repl 3 zs v = if v < Px.pt zs 0 then 0 else 255 from rfl]
    obtain rfl : n = 1 := by rw [← h.1]; exact hl
    obtain ⟨b, off, rfl, -, hc0⟩ := h.at (i := 0) (by omega)
    rw [Nat.add_zero] at hc0
    clear h hB hl
    obtain ⟨r, hr⟩ : ∃ r : Int, r = if v < Px.pt zs 0 then 0 else 255 := ⟨_, rfl⟩
    rw [← hr] at C ⊢
    clear hr
    generalize Px.pt zs 0 = p0 at *
    go_enter Tryd.func34, Tryd.ntmps34
    go_wp2_with fail
    refine (C.out _).mono ?_
    rintro e w' ⟨rfl, rfl⟩
    go_wp2_with fail
    go_ret
    exact ⟨rfl, Keeps.refl _ _⟩
theorem repl_any (w : World) (a : Option Addr) (n c : Nat) (zs : List Int) (hnc : n ≤ c) (h : Ints w a n zs) (v : Int) (hv : Px.Byte v) (kind : Int) (hf : Px.Fits kind zs) : Calls Tryd.prog 34 #[.int .i64 kind, .slice a n c, .int .i64 v] w fun e w' => e = .returned (.int .i64 (Px.repl kind zs v)) ∧ Keeps none' w w' := by
  have hc : kind = 0 ∨ kind = 1 ∨ kind = 2 ∨ kind = 3 := by
    obtain ⟨_, ⟨q, _⟩ | ⟨q, _⟩ | ⟨q, _⟩ | ⟨q, _⟩⟩ := hf <;> omega
  rcases hc with rfl | rfl | rfl | rfl
  · exact repl_levels w a n c zs hnc h v hv hf
  · exact repl_curve w a n c zs hnc h v hv hf
  · exact repl_invert w a n c zs hnc h v hv
  · exact repl_threshold w a n c zs hnc h v hv hf
/-- The first k of 256 numbers in a block. -/
def TblTo (w : World) (B k : Nat) (f : Int → Int) : Prop := ∃ cs : Array Value, w.heap[B]? = some (.cells cs 3 (0, 0)) ∧ cs.size = 256 ∧ ∀ j : Nat, j < k → cs[j]? = some (.int .i64 (f j))
theorem TblTo.lt {w : World} {B k : Nat} {f : Int → Int} (h : TblTo w B k f) : B < w.heap.size := by obtain ⟨cs, h1, _⟩ := h; exact lt_of_block h1
theorem TblTo.later {w w' : World} {B k : Nat} {f : Int → Int} (h : TblTo w B k f) (hk : Keeps none' w w') : TblTo w' B k f := by
  obtain ⟨cs, h1, h2, h3⟩ := h
  exact ⟨cs, (hk.later B (lt_of_block h1)).trans h1, h2, h3⟩
theorem TblTo.old {w : World} {B k i : Nat} {f : Int → Int} (h : TblTo w B k f) (hi : i < 256) : ∃ v, w.cell? ⟨B, i, none⟩ = some v ∧ w.frozen? ⟨B, i, none⟩ = false := by
  obtain ⟨cs, h1, h2, h3⟩ := h
  exact ⟨cs[i]'(by omega), by rw [cell_of_row _ _ _ _ _ _ h1, Array.getElem?_eq_getElem (by omega)], frozen_of_row _ _ _ _ _ h1⟩
theorem TblTo.next {w : World} {B k : Nat} {f : Int → Int} (h : TblTo w B k f) (hk : k < 256) : TblTo (w.setCell ⟨B, k, none⟩ (.int .i64 (f k))) B (k + 1) f := by
  obtain ⟨cs, h1, h2, h3⟩ := h
  refine ⟨_, block_set h1 _, by simpa using h2, fun j hj => ?_⟩
  by_cases e : j = k
  · subst e; rw [Array.getElem?_setIfInBounds_self_of_lt (by omega)]
  · rw [Array.getElem?_setIfInBounds_ne (fun x => e x.symm)]; exact h3 j (by omega)
theorem TblTo.at {w : World} {B i : Nat} {f : Int → Int} (h : TblTo w B 256 f) (hi : i < 256) : w.cell? ⟨B, i, none⟩ = some (.int .i64 (f i)) := by
  obtain ⟨cs, h1, h2, h3⟩ := h
  rw [cell_of_row _ _ _ _ _ _ h1]; exact h3 i hi
/-- What a table's making answers. -/
def Tabled (w : World) (f : Int → Int) (e : Ending) (w' : World) : Prop := ∃ B, e = .returned (.tuple #[.slice (some ⟨B, 0, none⟩) 256 256, .bool true]) ∧ TblTo w' B 256 f ∧ Keeps none' w w' ∧ w.heap.size ≤ B
theorem info3 : (Tryd.prog.info? 3).map (fun i => (i.zero, i.size, i.bytes)) = some (some (.int .i64 0), 1, 8) := by kernel_rfl
theorem make256 (w : World) : (Instr.makeSlice 30 (.int .i64 256) (.int .i64 256)).run Tryd.prog w = .ok (.slice (some ⟨w.heap.size, 0, none⟩) 256 256) (w.alloc (.cells (madeCells #[.int .i64 0] 256) 3)) :=
  run_make_row' (P := Tryd.prog) 30 3 (.int .i64 0) 8 Tryd.underlying30 info3 rfl .i64 .i64 256 (by omega) (by omega) w
theorem tbl_new (w : World) (f : Int → Int) : TblTo (w.alloc (.cells (madeCells #[.int .i64 0] 256) 3)) w.heap.size 0 f :=
  ⟨_, heap_alloc_new _ _, by simp [madeCells], fun j hj => absurd hj (by omega)⟩
theorem table_no (w : World) (a : Option Addr) (n c : Nat) (zs : List Int) (hn : n ≤ 16777216) (h : Ints w a n zs) (kind : Int) (hf : ¬ Px.Fits kind zs) :
    Calls Tryd.prog 23 #[.int .i64 kind, .slice a n c] w fun e w' => e = .returned (.tuple #[.slice none 0 0, .bool false]) ∧ Keeps none' w w' := by
  have C := Lib.hid (fits_any w a n c zs hn h kind false ⟨(fun h => by cases h), fun h => absurd h hf⟩)
  clear h hf
  go_enter Tryd.func23, Tryd.ntmps23
  go_wp2_with fail
  refine C.out.mono ?_
  rintro e w' ⟨rfl, hk⟩
  have HK := Lib.hid hk
  clear hk
  go_wp2_with fail
  go_ret2
  exact ⟨rfl, HK.out⟩
set_option maxHeartbeats 800000 in
theorem table_yes (w : World) (a : Option Addr) (n c : Nat) (zs : List Int) (hn : n ≤ 16777216) (hnc : n ≤ c) (h : Ints w a n zs) (kind : Int) (hf : Px.Fits kind zs) :
    Calls Tryd.prog 23 #[.int .i64 kind, .slice a n c] w (Tabled w (Px.repl kind zs)) := by
  have C := Lib.hid (fits_any w a n c zs hn h kind true ⟨fun _ => hf, fun _ => rfl⟩)
  have H := Lib.hid h
  have HF := Lib.hid hf
  clear h hf
  have hmk := make256
  go_enter Tryd.func23, Tryd.ntmps23
  go_wp2_with fail
  refine C.out.mono ?_
  rintro e w' ⟨rfl, hk⟩
  have HK := Lib.hid hk
  clear hk
  go_wp2_with fail
  have T0 := Lib.hid (tbl_new w' (Px.repl kind zs))
  have K0 := Lib.hid (HK.out.alloc (.cells (madeCells #[.int .i64 0] 256) 3))
  have LB : w.heap.size ≤ w'.heap.size := HK.out.size
  generalize w'.alloc (.cells (madeCells #[.int .i64 0] 256) 3) = w1 at *
  generalize w'.heap.size = B at *
  clear HK hmk C
  go_loopw [15] (fun cnt wr => ∃ k : Nat, k ≤ 256 ∧ cnt = .int .i64 k ∧ TblTo wr B k (Px.repl kind zs) ∧ Keeps none' w wr) (fun cnt _ => 256 - (intOf cnt).toNat)
  case atStart => exact ⟨0, by omega, rfl, T0.out, K0.out⟩
  case round =>
    obtain ⟨k, hk, rfl, hT, hK⟩ := hrel
    have HT := Lib.hid hT
    have HK := Lib.hid hK
    clear hT hK
    by_cases hlt : k < 256
    · have R := Lib.hid (repl_any wr a n c zs hnc (H.out.later HK.out) (k : Int) ⟨by omega, by omega⟩ kind HF.out)
      have hki : (k : Int) < 256 := by omega
      go_wp2_with fail
      refine R.out.mono ?_
      rintro e w2 ⟨rfl, hk2⟩
      have HT2 := Lib.hid (HT.out.later hk2)
      have X := Lib.hid (HT2.out.next hlt)
      have Y := Lib.hid ((HK.out.next hk2).setCell (p := ⟨B, k, none⟩) (fun e => by simp only at e; omega) (.int .i64 (Px.repl kind zs k)))
      obtain ⟨ov, o1, o2⟩ := HT2.out.old hlt
      clear hk2
      generalize Px.repl kind zs k = r at *
      go_wp2_with fail
      go_roundw
      case rel => exact ⟨k + 1, by omega, by go_num, X.out, Y.out⟩
      case measure => simp [intOf]; omega
    · obtain rfl : k = 256 := by omega
      go_wp2_with fail
      go_ret2
      exact ⟨B, rfl, HT.out, HK.out, LB⟩
end Go.Proofs.YtfofghakjjblfaaDoor
