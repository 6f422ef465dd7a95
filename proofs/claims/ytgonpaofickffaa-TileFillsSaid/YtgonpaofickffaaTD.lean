/- A tile in memory; reading it, and filling it. -/
import Derived.Test.YtgonpaofickffaaTB
namespace Go.Proofs.Ytgonpaofickffaa
open Go.RowKit Go.Maps
set_option linter.unusedVariables false

/-- Block t of w is a tile that n planes have, its pixels f. -/
def TileAt (w : World) (t n : Nat) (f : Nat → Nat) : Prop :=
  ∃ cur : Array Value, w.heap[t]? = some (.cells cur 76 (0, 0)) ∧ cur.size = 257 ∧ cur[0]? = some (.int .i64 (n : Int)) ∧ ∀ k, k < 256 → cur[k + 1]? = some (.int .u32 (f k : Int))
theorem TileAt.lt {w : World} {t n : Nat} {f : Nat → Nat} (h : TileAt w t n f) : t < w.heap.size := by
  obtain ⟨c, h, _⟩ := h
  exact lt_of_block h
theorem TileAt.keep {w w' : World} {t n : Nat} {f : Nat → Nat} (h : TileAt w t n f) (hb : w'.heap[t]? = w.heap[t]?) : TileAt w' t n f := by
  obtain ⟨c, h1, h2⟩ := h
  exact ⟨c, hb.trans h1, h2⟩
theorem TileAt.later {w w' : World} {t n : Nat} {f : Nat → Nat} (h : TileAt w t n f) (hk : Keeps none' w w') : TileAt w' t n f := h.keep (hk.later _ h.lt)
theorem TileAt.count {w : World} {t n : Nat} {f : Nat → Nat} (h : TileAt w t n f) : w.cell? ⟨t, 0, none⟩ = some (.int .i64 (n : Int)) ∧ w.frozen? ⟨t, 0, none⟩ = false := by
  obtain ⟨c, h1, h2, h3, h4⟩ := h
  exact ⟨by simp [World.cell?, h1, h3], by simp [World.frozen?, h1]⟩
theorem TileAt.cell {w : World} {t n : Nat} {f : Nat → Nat} (h : TileAt w t n f) {k : Nat} (hk : k < 256) : w.cell? ⟨t, 1 + k, none⟩ = some (.int .u32 (f k : Int)) ∧ w.frozen? ⟨t, 1 + k, none⟩ = false := by
  obtain ⟨c, h1, h2, h3, h4⟩ := h
  exact ⟨by simp [World.cell?, h1, Nat.add_comm 1 k, h4 k hk], by simp [World.frozen?, h1]⟩
theorem TileAt.cell2 {w : World} {t n : Nat} {f : Nat → Nat} (h : TileAt w t n f) {a b : Nat} (ha : a < 16) (hb : b < 16) : w.cell? ⟨t, 1 + a * 16 + b, none⟩ = some (.int .u32 (f (a * 16 + b) : Int)) ∧ w.frozen? ⟨t, 1 + a * 16 + b, none⟩ = false := by
  have := h.cell (k := a * 16 + b) (by omega)
  rwa [← Nat.add_assoc] at this
theorem TileAt.setCount {w : World} {t n : Nat} {f : Nat → Nat} (h : TileAt w t n f) (m : Nat) : TileAt (w.setCell ⟨t, 0, none⟩ (.int .i64 (m : Int))) t m f := by
  obtain ⟨c, h1, h2, h3, h4⟩ := h
  refine ⟨_, block_set h1 _, by simpa using h2, ?_, fun k hk => ?_⟩
  · rw [Array.getElem?_setIfInBounds_self_of_lt (by omega)]
  · rw [Array.getElem?_setIfInBounds_ne (by omega)]
    exact h4 k hk
theorem TileAt.setPix {w : World} {t n : Nat} {f f' : Nat → Nat} (h : TileAt w t n f) {i z : Nat} (hf : ∀ j, j < 256 → f' j = if j = i then z else f j) : TileAt (w.setCell ⟨t, 1 + i, none⟩ (.int .u32 (z : Int))) t n f' := by
  obtain ⟨c, h1, h2, h3, h4⟩ := h
  refine ⟨_, block_set h1 _, by simpa using h2, ?_, fun k hk => ?_⟩
  · rw [Array.getElem?_setIfInBounds_ne (by omega)]
    exact h3
  · rw [hf k hk]
    by_cases e : k = i
    · subst e
      rw [Nat.add_comm k 1, Array.getElem?_setIfInBounds_self_of_lt (by omega), if_pos rfl]
    · rw [Array.getElem?_setIfInBounds_ne (by omega), if_neg e]
      exact h4 k hk
theorem TileAt.congr {w : World} {t n : Nat} {f f' : Nat → Nat} (h : TileAt w t n f) (hf : ∀ j, j < 256 → f' j = f j) : TileAt w t n f' := by
  obtain ⟨c, h1, h2, h3, h4⟩ := h
  exact ⟨c, h1, h2, h3, fun k hk => by rw [hf k hk]; exact h4 k hk⟩

/-- What a tile that may be none has. -/
def TileOr (w : World) (o : Option Nat) (n : Nat) (f : Nat → Nat) : Prop :=
  match o with
  | none => n = 0 ∧ ∀ k, f k = 0
  | some t => TileAt w t n f
theorem TileOr.later {w w' : World} {o : Option Nat} {n : Nat} {f : Nat → Nat} (h : TileOr w o n f) (hk : Keeps none' w w') : TileOr w' o n f := by
  cases o with
  | none => exact h
  | some t => exact TileAt.later h hk

theorem at_any (w : World) (o : Option Nat) (n : Nat) (f : Nat → Nat) (h : TileOr w o n f) (x y : Nat) (hx : x ≤ 1048576) (hy : y ≤ 1048576) :
    Calls Try.prog 30 #[tileV o, .int .i64 (x : Int), .int .i64 (y : Int)] w fun e w' => e = .returned (.int .u32 (f (y % 16 * 16 + x % 16) : Int)) ∧ w' = w := by
  cases o with
  | none =>
    obtain ⟨rfl, hf⟩ := h
    rw [hf]
    simp only [tileV]
    go_enter Try.func30, Try.ntmps30
    go_wp2
    go_ret
    exact ⟨rfl, rfl⟩
  | some t =>
    obtain ⟨hc, -⟩ := TileAt.cell2 h (a := y % 16) (b := x % 16) (by omega) (by omega)
    obtain ⟨c, hcc⟩ : ∃ c, c = f (y % 16 * 16 + x % 16) := ⟨_, rfl⟩
    rw [← hcc] at hc ⊢
    clear hcc h
    simp only [tileV]
    go_enter Try.func30, Try.ntmps30
    go_wp2
    go_ret
    exact ⟨rfl, rfl⟩
theorem alone_any (w : World) (o : Option Nat) (n : Nat) (f : Nat → Nat) (h : TileOr w o n f) :
    Calls Try.prog 32 #[tileV o] w fun e w' => e = .returned (.bool (decide (n = 1))) ∧ w' = w := by
  cases o with
  | none =>
    obtain ⟨rfl, hf⟩ := h
    simp only [tileV]
    go_enter Try.func32, Try.ntmps32
    go_wp2
    go_ret
    exact ⟨by simp, rfl⟩
  | some t =>
    obtain ⟨hc, -⟩ := TileAt.count h
    clear h
    simp only [tileV]
    go_enter Try.func32, Try.ntmps32
    go_wp2
    go_ret
    refine ⟨?_, rfl⟩
    by_cases h1 : n = 1
    · subst h1; rfl
    · have : ((n : Int) == 1) = false := by simp; omega
      simp [h1, this]
      trace_state
/-- A plane in memory. -/
def PlaneAt (w : World) (p A W H m : Nat) : Prop := w.heap[p]? = some (.cells #[.pointer (some ⟨A, 0, none⟩), .int .i64 (W : Int), .int .i64 (H : Int), .map (some m)] 63 (0, 0))
theorem PlaneAt.cells {w : World} {p A W H m : Nat} (h : PlaneAt w p A W H m) : w.cell? ⟨p, 0, none⟩ = some (.pointer (some ⟨A, 0, none⟩)) ∧ w.cell? ⟨p, 1, none⟩ = some (.int .i64 (W : Int)) ∧ w.cell? ⟨p, 2, none⟩ = some (.int .i64 (H : Int)) ∧ w.cell? ⟨p, 3, none⟩ = some (.map (some m)) := by
  unfold PlaneAt at h
  simp [World.cell?, h]
theorem PlaneAt.lt {w : World} {p A W H m : Nat} (h : PlaneAt w p A W H m) : p < w.heap.size := lt_of_block h
/-- A call tells whether p. -/
def Tells (p : Prop) (e : Ending) : Prop := ∃ b, e = .returned (.bool b) ∧ (b = true ↔ p)
theorem inside_any (w : World) (p A W H m : Nat) (h : PlaneAt w p A W H m) (x y : Int) :
    Calls Try.prog 28 #[.pointer (some ⟨p, 0, none⟩), .int .i64 x, .int .i64 y] w fun e w' => e = .returned (.bool (decide (0 ≤ x ∧ x < W ∧ 0 ≤ y ∧ y < H))) ∧ w' = w := by
  obtain ⟨-, c1, c2, -⟩ := h.cells
  clear h
  go_enter Try.func28, Try.ntmps28
  go_wp2
  all_goals (go_ret; refine ⟨?_, rfl⟩; first | (rw [decide_eq_true (by omega)]; done) | (rw [decide_eq_false (by omega)]; done) | (rw [decide_eq_true (by omega)]; simp; done) | (rw [decide_eq_false (by omega)]; simp; done) | (simp only [show (0 ≤ x ∧ x < (W : Int) ∧ 0 ≤ y ∧ y < (H : Int)) = (y < (H : Int)) from propext ⟨fun h => h.2.2.2, fun h => by omega⟩]; simp; done) | (simp; omega))
/-- Two numbers in a tile's stretches. -/
def InArea (xf : Nat) (xt : Int) (yf : Nat) (yt : Int) (x y : Nat) : Prop := xf ≤ x ∧ (x : Int) < xt ∧ yf ≤ y ∧ (y : Int) < yt
set_option maxHeartbeats 1600000 in
theorem differs_any (w : World) (o : Option Nat) (n : Nat) (f : Nat → Nat) (h : TileOr w o n f) (xf yf : Nat) (xt yt : Int) (hx : xt ≤ 16) (hy : yt ≤ 16) (hxf : xf ≤ 1048576) (hyf : yf ≤ 1048576) (v : Nat) :
    Calls Try.prog 43 #[tileV o, .agg #[.int .i64 (xf : Int), .int .i64 xt, .int .i64 (yf : Int), .int .i64 yt], .int .u32 (v : Int)] w fun e w' =>
      Tells (∃ x y, InArea xf xt yf yt x y ∧ f (y * 16 + x) ≠ v) e ∧ Keeps none' w w' := by
  have HT := Lib.hid h
  obtain ⟨u, hu⟩ : ∃ u, u = tileV o := ⟨_, rfl⟩
  rw [← hu]
  have HU := Lib.hid hu
  clear hu h
  go_enter Try.func43, Try.ntmps43
  go_wp2_with fail
  obtain ⟨w1, hw1⟩ : ∃ w1, w1 = w.alloc (.cells #[.int .i64 (xf : Int), .int .i64 xt, .int .i64 (yf : Int), .int .i64 yt] 82) := ⟨_, rfl⟩
  have W0 := Lib.hid (show Keeps none' w w1 by rw [hw1]; exact (Keeps.refl none' w).alloc _)
  have c0 : w1.cell? ⟨w.heap.size, 0, none⟩ = some (.int .i64 (xf : Int)) := by rw [hw1]; exact cell_at rfl
  have c1 : w1.cell? ⟨w.heap.size, 1, none⟩ = some (.int .i64 xt) := by rw [hw1]; exact cell_at rfl
  have c2 : w1.cell? ⟨w.heap.size, 2, none⟩ = some (.int .i64 (yf : Int)) := by rw [hw1]; exact cell_at rfl
  have c3 : w1.cell? ⟨w.heap.size, 3, none⟩ = some (.int .i64 yt) := by rw [hw1]; exact cell_at rfl
  rw [← hw1]
  clear hw1
  generalize w.heap.size = B at *
  have HT := Lib.hid (HT.out.later W0.out)
  go_loopw [7] (fun cnt wr => ∃ y : Nat, y ≤ 1048576 ∧ cnt = .int .i64 y ∧ (∀ a b, InArea xf xt yf yt a b → b < y → f (b * 16 + a) = v) ∧ yf ≤ y ∧ wr = w1) (fun cnt _ => 16 - (intOf cnt).toNat)
  case atStart => exact ⟨yf, hyf, rfl, fun a b h hb => by have := h.2.2.1; omega, Nat.le_refl _, rfl⟩
  case round =>
    obtain ⟨y, hy1, rfl, hd, hyl, rfl⟩ := hrel
    by_cases hlt : (y : Int) < yt
    · have HD := Lib.hid hd
      clear hd
      go_wp2_with fail
      go_loopw [8] (fun cnt wl => ∃ x : Nat, x ≤ 1048576 ∧ cnt = .int .i64 x ∧ (∀ a, xf ≤ a → (a : Int) < xt → a < x → f (y * 16 + a) = v) ∧ xf ≤ x ∧ wl = wr) (fun cnt _ => 16 - (intOf cnt).toNat)
      case atStart => exact ⟨xf, hxf, rfl, fun a h1 h2 h3 => by omega, Nat.le_refl _, rfl⟩
      case round =>
        obtain ⟨x, hx1, rfl, hdx, hxl, rfl⟩ := hrel
        by_cases hltx : (x : Int) < xt
        · have C := at_any _ o n f HT.out x y hx1 hy1
          rw [← HU.out, show y % 16 = y by omega, show x % 16 = x by omega] at C
          have C := Lib.hid C
          have HDX := Lib.hid hdx
          clear hdx
          obtain ⟨z, hz⟩ : ∃ z, z = f (y * 16 + x) := ⟨_, rfl⟩
          rw [← hz] at C
          have HZ := Lib.hid hz
          clear hz
          by_cases e : z = v
          · have u1 : ((z : Int) != (v : Int)) = false := by simp [e]
            have u2 : ((z : Int) == (v : Int)) = true := by simp [e]
            have HE := Lib.hid e
            clear e
            go_wp2_with (go_at_call 30; refine C.out.mono ?_; rintro e w' ⟨rfl, rfl⟩)
            go_roundw
            case rel => exact ⟨x + 1, by omega, by go_num, fun a h1 h2 h3 => by
              by_cases e : a = x
              · rw [e, ← HZ.out]; exact HE.out
              · exact HDX.out a h1 h2 (by omega), by omega, by first | rfl | trivial⟩
            case measure => simp [intOf] <;> omega
          · have u1 : ((z : Int) != (v : Int)) = true := by simp; omega
            have u2 : ((z : Int) == (v : Int)) = false := by simp; omega
            have HE := Lib.hid e
            clear e
            go_wp2_with (go_at_call 30; refine C.out.mono ?_; rintro e w' ⟨rfl, rfl⟩)
            go_ret
            refine ⟨⟨_, rfl, ?_⟩, W0.out⟩
            simp only [true_iff]
            exact ⟨x, y, ⟨hxl, hltx, hyl, hlt⟩, by rw [← HZ.out]; exact HE.out⟩
        · have HDX := Lib.hid hdx
          have u0 : decide ((x : Int) < xt) = false := decide_eq_false hltx
          clear hdx
          go_wp2_with fail
          go_roundw
          case rel => exact ⟨y + 1, by omega, by go_num, fun a b h hb => by
            by_cases e : b = y
            · subst e; exact HDX.out a h.1 h.2.1 (by have := h.2.1; omega)
            · exact HD.out a b h (by omega), by omega, by first | rfl | trivial⟩
          case measure => simp [intOf] <;> omega
    · have u0 : decide ((y : Int) < yt) = false := decide_eq_false hlt
      have HD := Lib.hid hd
      clear hd
      go_wp2_with fail
      go_ret
      refine ⟨⟨_, rfl, ?_⟩, W0.out⟩
      simp only [Bool.false_eq_true, false_iff]
      rintro ⟨a, b, hin, hne⟩
      exact hne (HD.out a b hin (by have := hin.2.2.2; omega))
/-- A tile filled. -/
def filled (f : Nat → Nat) (xf : Nat) (xt : Int) (yf : Nat) (yt : Int) (v : Nat) : Nat → Nat := fun k => if xf ≤ k % 16 ∧ ((k % 16 : Nat) : Int) < xt ∧ yf ≤ k / 16 ∧ ((k / 16 : Nat) : Int) < yt then v else f k
/-- .. as far as the row y and the column x. -/
def part (f : Nat → Nat) (xf : Nat) (xt : Int) (yf : Nat) (yt : Int) (v y x : Nat) : Nat → Nat := fun k => if xf ≤ k % 16 ∧ ((k % 16 : Nat) : Int) < xt ∧ yf ≤ k / 16 ∧ ((k / 16 : Nat) : Int) < yt ∧ (k / 16 < y ∨ k / 16 = y ∧ k % 16 < x) then v else f k
set_option maxHeartbeats 1600000 in
theorem fill_any (w : World) (t n : Nat) (f : Nat → Nat) (h : TileAt w t n f) (xf yf : Nat) (xt yt : Int) (hx : xt ≤ 16) (hy : yt ≤ 16) (hxf : xf ≤ 1048576) (hyf : yf ≤ 1048576) (v : Nat) :
    Calls Try.prog 36 #[.pointer (some ⟨t, 0, none⟩), .agg #[.int .i64 (xf : Int), .int .i64 xt, .int .i64 (yf : Int), .int .i64 yt], .int .u32 (v : Int)] w fun e w' =>
      e = .returned (.tuple #[]) ∧ TileAt w' t n (filled f xf xt yf yt v) ∧ Keeps (fun k => k = t) w w' := by
  have HT := Lib.hid h
  clear h
  go_enter Try.func36, Try.ntmps36
  go_wp2_with fail
  obtain ⟨w1, hw1⟩ : ∃ w1, w1 = w.alloc (.cells #[.int .i64 (xf : Int), .int .i64 xt, .int .i64 (yf : Int), .int .i64 yt] 82) := ⟨_, rfl⟩
  have W0 := Lib.hid (show Keeps none' w w1 by rw [hw1]; exact (Keeps.refl none' w).alloc _)
  have c0 : w1.cell? ⟨w.heap.size, 0, none⟩ = some (.int .i64 (xf : Int)) := by rw [hw1]; exact cell_at rfl
  have c1 : w1.cell? ⟨w.heap.size, 1, none⟩ = some (.int .i64 xt) := by rw [hw1]; exact cell_at rfl
  have c2 : w1.cell? ⟨w.heap.size, 2, none⟩ = some (.int .i64 (yf : Int)) := by rw [hw1]; exact cell_at rfl
  have c3 : w1.cell? ⟨w.heap.size, 3, none⟩ = some (.int .i64 yt) := by rw [hw1]; exact cell_at rfl
  have hb : w1.heap[w.heap.size]? = some (.cells #[.int .i64 (xf : Int), .int .i64 xt, .int .i64 (yf : Int), .int .i64 yt] 82 (0, 0)) := by rw [hw1]; exact heap_alloc_new _ _
  have hne : w.heap.size ≠ t := by have := HT.out.lt; omega
  have HNE := Lib.hid hne
  have HB := Lib.hid hb
  rw [← hw1]
  clear hw1 hb
  generalize w.heap.size = B at *
  have HT := Lib.hid (HT.out.later W0.out)
  have K0 := Lib.hid (W0.out.mono (S1 := fun k => k = t) (fun i _ h => h.elim))
  clear W0
  have CELLS : ∀ wr : World, wr.heap[B]? = w1.heap[B]? → wr.cell? ⟨B, 0, none⟩ = some (.int .i64 (xf : Int)) ∧ wr.cell? ⟨B, 1, none⟩ = some (.int .i64 xt) ∧ wr.cell? ⟨B, 2, none⟩ = some (.int .i64 (yf : Int)) ∧ wr.cell? ⟨B, 3, none⟩ = some (.int .i64 yt) := by
    intro wr h
    rw [HB.out] at h
    simp [World.cell?, h]
  have CELLS := Lib.hid CELLS
  go_loopw [6] (fun cnt wr => ∃ y : Nat, y ≤ 1048576 ∧ cnt = .int .i64 y ∧ yf ≤ y ∧ TileAt wr t n (part f xf xt yf yt v y 0) ∧ Keeps (fun k => k = t) w wr ∧ wr.heap[B]? = w1.heap[B]?) (fun cnt _ => 16 - (intOf cnt).toNat)
  case atStart => exact ⟨yf, hyf, rfl, Nat.le_refl _, HT.out.congr (fun j _ => by unfold part; rw [if_neg (by omega)]), K0.out, rfl⟩
  case round =>
    clear c0 c1 c2 c3
    obtain ⟨y, hy1, rfl, hyl, ht, hk, hbb⟩ := hrel
    obtain ⟨c0, c1, c2, c3⟩ := CELLS.out wr hbb
    obtain ⟨wo, hwo⟩ : ∃ wo, wo = wr := ⟨_, rfl⟩
    have HTT := Lib.hid (And.intro ht (And.intro hk hbb))
    clear ht hk hbb
    by_cases hlt : (y : Int) < yt
    · rw [← hwo] at c0 c1 c2 c3 HTT ⊢
      clear hwo
      go_wp2_with fail
      go_loopw [7] (fun cnt wl => ∃ x : Nat, x ≤ 1048576 ∧ cnt = .int .i64 x ∧ xf ≤ x ∧ TileAt wl t n (part f xf xt yf yt v y x) ∧ Keeps (fun k => k = t) w wl ∧ wl.heap[B]? = w1.heap[B]?) (fun cnt _ => 16 - (intOf cnt).toNat)
      case atStart => exact ⟨xf, hxf, rfl, Nat.le_refl _, HTT.out.1.congr (fun j _ => by unfold part; congr 1; apply propext; omega), HTT.out.2⟩
      case round =>
        clear c0 c1 c2 c3
        obtain ⟨x, hx1, rfl, hxl, ht, hk, hbb⟩ := hrel
        obtain ⟨c0, c1, c2, c3⟩ := CELLS.out wr hbb
        by_cases hltx : (x : Int) < xt
        · obtain ⟨d0, d1⟩ := ht.cell2 (a := y) (b := x) (by omega) (by omega)
          have X := Lib.hid (show TileAt (wr.setCell ⟨t, 1 + y * 16 + x, none⟩ (.int .u32 (v : Int))) t n (part f xf xt yf yt v y (x + 1)) ∧ Keeps (fun k => k = t) w (wr.setCell ⟨t, 1 + y * 16 + x, none⟩ (.int .u32 (v : Int))) ∧ (wr.setCell ⟨t, 1 + y * 16 + x, none⟩ (.int .u32 (v : Int))).heap[B]? = w1.heap[B]? from by
            refine ⟨?_, hk.setCell (fun _ => rfl) _, (Below.heap_setCell _ _ _ _ HNE.out).trans hbb⟩
            rw [Nat.add_assoc]
            refine ht.setPix (fun j hj => ?_)
            unfold part
            by_cases e : j = y * 16 + x
            · subst e
              rw [if_pos rfl, if_pos (by omega)]
            · rw [if_neg e]
              congr 1
              apply propext
              omega)
          clear ht hk hbb
          go_wp2_with fail
          go_roundw
          case rel => exact ⟨x + 1, by omega, by go_num, by omega, X.out⟩
          case measure => simp [intOf] <;> omega
        · have u0 : decide ((x : Int) < xt) = false := decide_eq_false hltx
          have X := Lib.hid (show TileAt wr t n (part f xf xt yf yt v (y + 1) 0) ∧ Keeps (fun k => k = t) w wr ∧ wr.heap[B]? = w1.heap[B]? from ⟨ht.congr (fun j _ => by unfold part; congr 1; apply propext; omega), hk, hbb⟩)
          clear ht hk hbb
          go_wp2_with fail
          go_roundw
          case rel => exact ⟨y + 1, by omega, by go_num, by omega, X.out⟩
          case measure => simp [intOf] <;> omega
    · have u0 : decide ((y : Int) < yt) = false := decide_eq_false hlt
      subst hwo
      go_wp2_with fail
      go_end0
      exact ⟨rfl, HTT.out.1.congr (fun j _ => by unfold part filled; congr 1; apply propext; omega), HTT.out.2.1⟩
end Go.Proofs.Ytgonpaofickffaa
