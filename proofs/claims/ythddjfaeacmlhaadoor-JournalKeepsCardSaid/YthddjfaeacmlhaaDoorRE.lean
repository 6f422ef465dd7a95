/- The contract of the copy of a list of bytes; Read and Clone. -/
import Derived.Test.YthddjfaeacmlhaaDoorRD
import Derived.Laws.CopyOwn
namespace Go.Proofs.YthddjfaeacmlhaaDoor.Re
open Go.RowKit

/-- What a row of the call's own holds that is as long as its block. -/
theorem own_whole {w : World} {B g n : Nat} {xs : List Value} (h : w.ownsRow B 5 1 (.slice (some ⟨g, 0, none⟩) n n) n xs) : w.heap[g]? = some (.cells xs.toArray 5 (0, 0)) := by
  obtain ⟨_, h2⟩ := h
  rcases h2 with ⟨h2, _⟩ | ⟨g', cap, cur, hv, hg, hh, a, b, c, d⟩
  · cases h2
  · cases hv
    have : cur.toList = xs := by
      rw [← d, List.take_of_length_le (by simp only [Array.length_toList]; omega)]
    rw [hh, ← this]

theorem Src.later {w w' : World} {a : Option Addr} {n : Nat} {ys : List Int} (h : Src w a n ys) (hk : ∀ k, k < w.heap.size → w'.heap[k]? = w.heap[k]?) : Src w' a n ys := by
  obtain ⟨h1, h2, h3⟩ := h
  refine ⟨h1, h2, ?_⟩
  rcases h3 with h3 | ⟨ad, ha, hc⟩
  · exact Or.inl h3
  · refine Or.inr ⟨ad, ha, fun j u hj => ?_⟩
    have hcell := hc j u hj
    exact (World.cell?_of_block (w := w) (hk _ (World.block_lt_of_cell? w _ hcell))).trans hcell

theorem copied_any (w : World) (a : Option Addr) (n c : Nat) (ys : List Int) (hs : Src w a n ys) (hn : n ≤ 16777216) :
    Calls Tryd.prog 37 #[.slice a n c] w fun e w' => e = .returned (.slice (some ⟨w.heap.size, 0, none⟩) n n) ∧ w'.heap[w.heap.size]? = some (.cells (ys.map (Value.int .u8)).toArray 5 (0, 0)) ∧ Below w.heap.size w w' := by
  obtain ⟨i0, hi, hz0, hz1, hz2⟩ := info_parts info5
  have S := Lib.hid hs
  clear hs
  go_enter Tryd.func37, Tryd.ntmps37
  go_wp2_with (at_make; go_must (refine wpList_make_full _ rfl (.tmp 5) (.tmp 5) 22 rfl w.heap.size 5 i0 (.int .u8 0) 1 Tryd.underlying22 hi hz0 hz1 .i64 .i64 n n n rfl rfl rfl rfl ?c1 ?c2 ?c3 ?c4))
  case c1 => rw [hz2]; omega
  case c2 => unfold maxLen; omega
  case c3 => exact Nat.le_refl _
  case c4 =>
    intro w1 hown hgrow
    have hwhole := own_whole hown
    have hkeep : ∀ k, k < w.heap.size → w1.heap[k]? = w.heap[k]? := fun k hk => hgrow.block k hk (by simp)
    have S1 := Lib.hid (S.out.later hkeep)
    have hb : Below w.heap.size w w1 := ⟨hgrow.os, hgrow.tape, hgrow.output, hgrow.size, hkeep⟩
    have W := Lib.hid hwhole
    have HB := Lib.hid hb
    clear hown hgrow hkeep hb hwhole
    go_wp2_with (with_reducible refine wpList_copy_splice rfl (.tmp 7) (.tmp 8) 22 22 rfl 5 Tryd.underlying22 (by kernel_rfl) (some ⟨w.heap.size, 0, none⟩) a n n n c rfl rfl w.heap.size 0 _ 5 W.out (ys.map (Value.int .u8)) ?d1 ?d2 ?d3 ?d4 w.heap.size w HB.out (Nat.le_refl _) ?d5)
    case d1 => rw [List.length_map, S1.out.1]; simp
    case d2 =>
      intro hp
      rcases S1.out.2.2 with ⟨_, h⟩ | ⟨ad, ha, hc⟩
      · exfalso
        have := S1.out.1
        omega
      · refine ⟨ad, ha, fun j v hj => hc j _ ?_⟩
        rw [List.getElem?_map, hj]
        rfl
    case d3 => have := S1.out.1; simp [madeCells]; omega
    case d4 => intro u hu; simp only [List.mem_map] at hu; obtain ⟨y, _, rfl⟩ := hu; rfl
    case d5 =>
      intro w2 hh hb2
      have X := Lib.hid (show w2.heap[w.heap.size]? = some (.cells (ys.map (Value.int .u8)).toArray 5 (0, 0)) by
        rw [hh.out]
        have e : ∀ L : List Value, L.length = n → splice L 0 (ys.map (Value.int .u8)) = ys.map (Value.int .u8) := by
          intro L hL
          have := S1.out.1
          unfold splice
          rw [List.drop_eq_nil_of_le (by simp; omega)]
          simp
        rw [e _ (by simp [madeCells])])
      have Y := Lib.hid hb2
      clear hh hb2
      go_wp2_with fail
      go_ret
      exact ⟨rfl, X.out, Y.out⟩

theorem read_down (w : World) (B R : Nat) (D : Option Nat) (m : M) (h : Reel w B R D m) (at_ n : Int) (hd : m.down = true) :
    Calls Tryd.prog 21 #[.pointer (some ⟨R, 0, none⟩), .int .i64 at_, .int .i64 n] w fun e w' => e = .returned (.tuple #[.slice none 0 0, .int .i64 11]) ∧ w = w' := by
  obtain ⟨v, hb, hv, hD⟩ := h.holds
  obtain ⟨h0, h1, h2, h3, h4⟩ := reel_cells hb
  rw [hd] at h4
  clear h0 h1 h2 h3 hd hb hv h
  go_enter Tryd.func21, Tryd.ntmps21
  go_wp2
  go_ret2
  exact ⟨rfl, rfl⟩

theorem read_range (w : World) (B R : Nat) (D : Option Nat) (m : M) (h : Reel w B R D m) (at_ n : Int) (hd : m.down = false) (ha0 : -9223372036854775808 ≤ at_) (ha1 : at_ ≤ 9223372036854775807) (hr : at_ < 0 ∨ n < 0 ∨ (m.xs.length : Int) - at_ < n) :
    Calls Tryd.prog 21 #[.pointer (some ⟨R, 0, none⟩), .int .i64 at_, .int .i64 n] w fun e w' => e = .returned (.tuple #[.slice none 0 0, .int .i64 12]) ∧ w = w' := by
  have hl0 := h.ok.len
  have hc0 := h.ok.cap1
  obtain ⟨v, hb, hv, hD⟩ := h.holds
  obtain ⟨h0, h1, h2, h3, h4⟩ := reel_cells hb
  obtain ⟨av, cv, rfl⟩ : ∃ a c, v = .slice a m.xs.length c := by
    rcases hv.2 with ⟨h, h'⟩ | ⟨g, cap, _, h, _⟩
    · exact ⟨_, _, by rw [h, h']⟩
    · exact ⟨_, _, h⟩
  rw [hd] at h4
  clear h0 h2 h3 hd hb hv h
  by_cases c0 : at_ < 0
  · have t : decide (at_ < 0) = true := by simpa using c0
    go_enter Tryd.func21, Tryd.ntmps21
    go_wp2
    go_ret2
    exact ⟨rfl, rfl⟩
  · have t : decide (at_ < 0) = false := by simpa using c0
    by_cases c1 : n < 0
    · have t : decide (n < 0) = true := by simpa using c1
      go_enter Tryd.func21, Tryd.ntmps21
      go_wp2
      go_ret2
      exact ⟨rfl, rfl⟩
    · have t1 : decide (n < 0) = false := by simpa using c1
      have hr' : (m.xs.length : Int) - at_ < n := by omega
      clear hr
      go_enter Tryd.func21, Tryd.ntmps21
      go_wp2
      go_ret2
      exact ⟨rfl, rfl⟩

theorem cell_at {w : World} {g len at_ n : Nat} {cur : Array Value} {t : TypeId} {xs : List Int} (hg : w.heap[g]? = some (.cells cur t (0, 0))) (htk : cur.toList.take len = xs.map (Value.int .u8)) :
    ∀ j u, (((xs.drop at_).take n).map (Value.int .u8))[j]? = some u → w.cell? ((⟨g, at_, none⟩ : Addr).add j) = some u := by
  intro j u hj
  have h1 : (xs.map (Value.int .u8))[at_ + j]? = some u := by
    rw [List.getElem?_map] at hj ⊢
    rw [List.getElem?_take, List.getElem?_drop] at hj
    split at hj
    · exact hj
    · cases hj
  rw [← htk, List.getElem?_take] at h1
  have h2 : cur.toList[at_ + j]? = some u := by
    split at h1
    · exact h1
    · cases h1
  have h3 : ((⟨g, at_, none⟩ : Addr).add j) = ⟨g, at_ + j, none⟩ := by
    unfold Addr.add
    split
    · rename_i h; subst h; rfl
    · rfl
  rw [h3]
  simp only [World.cell?, hg]
  simpa using h2

/-- What Read tells: new memory. -/
theorem read_ok (w : World) (B R : Nat) (D : Option Nat) (m : M) (h : Reel w B R D m) (at_ n : Nat) (hd : m.down = false) (hr : at_ + n ≤ m.xs.length) :
    Calls Tryd.prog 21 #[.pointer (some ⟨R, 0, none⟩), .int .i64 at_, .int .i64 n] w fun e w' => e = .returned (.tuple #[.slice (some ⟨w.heap.size, 0, none⟩) n n, .int .i64 0]) ∧
      w'.heap[w.heap.size]? = some (.cells (((m.xs.drop at_).take n).map (Value.int .u8)).toArray 5 (0, 0)) ∧ Below w.heap.size w w' := by
  have hl0 := h.ok.len
  have hc0 := h.ok.cap1
  have t : decide ((at_ : Int) < 0) = false := by simp
  have t1 : decide ((n : Int) < 0) = false := by simp
  have t2 : (n : Int) ≤ (m.xs.length : Int) - at_ := by omega
  rcases h.open with ⟨hb, hx, hDn⟩ | ⟨g, c', cur, hb, hDn, hBg, hgR, hgc, hl1, hl2, hcs, htk⟩
  · obtain ⟨h0, h1, h2, h3, h4⟩ := reel_cells hb
    rw [hx] at hr t2 hl0
    obtain rfl : at_ = 0 := by simp at hr; omega
    obtain rfl : n = 0 := by simp at hr; omega
    rw [hd] at h4
    have C := Lib.hid (copied_any w none 0 0 [] ⟨rfl, by simp, Or.inl ⟨rfl, rfl⟩⟩ (by omega))
    clear h0 h2 h3 hd hb h hx hDn hr t2 hl0
    go_enter Tryd.func21, Tryd.ntmps21
    go_wp2_with fail
    refine C.out.mono ?_
    rintro e w' ⟨rfl, hh, hb⟩
    have X := Lib.hid (And.intro hh hb)
    clear hh hb
    go_wp2_with fail
    go_ret2
    exact ⟨rfl, by simpa using X.out.1, X.out.2⟩
  · obtain ⟨h0, h1, h2, h3, h4⟩ := reel_cells hb
    rw [hd] at h4
    have hsrc : Src w (some ⟨g, at_, none⟩) n ((m.xs.drop at_).take n) :=
      ⟨by simp; omega, fun y hy => h.ok.byte y (List.mem_of_mem_drop (List.mem_of_mem_take hy)), Or.inr ⟨_, rfl, cell_at hgc htk⟩⟩
    by_cases hc : c' = at_
    · obtain rfl : n = 0 := by omega
      have C := Lib.hid (fun c => copied_any w (some ⟨g, 0, none⟩) 0 c [] ⟨rfl, by simp, Or.inr ⟨_, rfl, by simp⟩⟩ (by omega))
      clear h0 h2 h3 hd hb h htk hgc hsrc hDn
      go_enter Tryd.func21, Tryd.ntmps21
      go_wp2_with fail
      refine (C.out _).mono ?_
      rintro e w' ⟨rfl, hh, hb⟩
      have X := Lib.hid (And.intro hh hb)
      clear hh hb
      go_wp2_with fail
      go_ret2
      exact ⟨rfl, by simpa using X.out.1, X.out.2⟩
    · have C := Lib.hid (fun c => copied_any w _ _ c _ hsrc (by omega))
      clear h0 h2 h3 hd hb h htk hgc hsrc hDn
      go_enter Tryd.func21, Tryd.ntmps21
      go_wp2_with fail
      refine (C.out _).mono ?_
      rintro e w' ⟨rfl, hh, hb⟩
      have X := Lib.hid (And.intro hh hb)
      clear hh hb
      go_wp2_with fail
      go_ret2
      exact ⟨rfl, X.out.1, X.out.2⟩

theorem Reel.src {w : World} {B R : Nat} {D : Option Nat} {m : M} (h : Reel w B R D m) :
    ∃ a c, w.heap[R]? = some (.cells #[.int .i64 m.cap, .slice a m.xs.length c, .int .i64 m.safe, .int .i64 m.left, .bool m.down] 59 (0, 0)) ∧ Src w a m.xs.length m.xs ∧ (a = none → c = 0) := by
  rcases h.open with ⟨hb', hx, hDn⟩ | ⟨g, c', cur, hb', hDn, hBg, hgR, hgc, hl1, hl2, hcs, htk⟩
  · exact ⟨none, 0, by rw [hb', hx]; rfl, by rw [hx]; exact ⟨rfl, by simp, Or.inl ⟨rfl, rfl⟩⟩, fun _ => rfl⟩
  · refine ⟨_, _, hb', ⟨rfl, h.ok.byte, Or.inr ⟨_, rfl, ?_⟩⟩, fun e => by cases e⟩
    have k := cell_at (at_ := 0) (n := m.xs.length) hgc htk
    simpa using k

theorem below_keeps {w w' : World} (h : Below w.heap.size w w') : Keeps (fun _ => False) w w' := ⟨h.os, h.tape, h.output, h.size, fun k hk _ => h.block k hk⟩

end Go.Proofs.YthddjfaeacmlhaaDoor.Re
