/- The contracts of the reel's Cut and Append. -/
import Derived.Test.YthddjfaeacmlhaaDoorRB
namespace Go.Proofs.YthddjfaeacmlhaaDoor.Re
open Go.RowKit

def M.cut (m : M) (n : Int) : Int × M :=
  if m.down then (11, m) else if n < 0 ∨ (m.xs.length : Int) < n then (12, m) else if m.left = 0 then m.spend else (0, { m.spend.2 with xs := m.xs.take n.toNat, safe := min m.safe n })

/-- A reel, its data's value in sight. -/
theorem Reel.open {w : World} {B R : Nat} {D : Option Nat} {m : M} (h : Reel w B R D m) :
    (w.heap[R]? = some (.cells #[.int .i64 m.cap, .slice none 0 0, .int .i64 m.safe, .int .i64 m.left, .bool m.down] 59 (0, 0)) ∧ m.xs = [] ∧ D = none) ∨
    ∃ g c cur, w.heap[R]? = some (.cells #[.int .i64 m.cap, .slice (some ⟨g, 0, none⟩) m.xs.length c, .int .i64 m.safe, .int .i64 m.left, .bool m.down] 59 (0, 0)) ∧ D = some g ∧ B ≤ g ∧ g ≠ R ∧
      w.heap[g]? = some (.cells cur 5 (0, 0)) ∧ m.xs.length ≤ c ∧ c ≤ maxLen ∧ cur.size = c ∧ cur.toList.take m.xs.length = m.xs.map (Value.int .u8) := by
  obtain ⟨v, hb, hv, hd⟩ := h.holds
  have ha := h.apart
  rcases hv.2 with ⟨rfl, h'⟩ | ⟨g, cap, cur, rfl, hg, hh, h1, h2, h3, h4⟩
  · exact Or.inl ⟨hb, List.eq_nil_of_length_eq_zero h', by rw [← hd]; rfl⟩
  · refine Or.inr ⟨g, cap, cur, hb, by rw [← hd]; rfl, hg, ?_, hh, h1, h2, by simpa using h3, by simpa using h4⟩
    rintro rfl
    exact ha (by rw [← hd]; rfl)

theorem spend_cap (m : M) : m.spend.2.cap = m.cap := by unfold M.spend; split <;> (try split) <;> rfl
theorem spend_safe (m : M) : m.spend.2.safe = m.safe := by unfold M.spend; split <;> (try split) <;> rfl

theorem own_take {w : World} {B g n c : Nat} {xs : List Value} (h : w.ownsRow B 5 1 (.slice (some ⟨g, 0, none⟩) n c) n xs) {k : Nat} (hk : k ≤ n) : w.ownsRow B 5 1 (.slice (some ⟨g, 0, none⟩) k c) k (xs.take k) := by
  obtain ⟨h1, h2⟩ := h
  refine ⟨by rw [List.length_take]; omega, ?_⟩
  rcases h2 with ⟨h2, _⟩ | ⟨g', cap, cur, hv, hg, hh, a, b, c', d⟩
  · cases h2
  · cases hv
    refine Or.inr ⟨g, c, cur, rfl, hg, hh, by omega, b, c', ?_⟩
    rw [← d, List.take_take]
    congr 1
    omega

/-- The data's value and one more cell set. -/
theorem Reel.set12 {w : World} {B R : Nat} {D D' : Option Nat} {m m' : M} (h : Reel w B R D m) (V : Value) (s : Int) (ok : m'.Ok)
    (hc : m'.cap = m.cap) (hs : m'.safe = s) (hl : m'.left = m.left) (hd : m'.down = m.down)
    (hown : w.ownsRow B 5 1 V m'.xs.length (m'.xs.map (Value.int .u8))) (hV : V.ownBlock = D') (ha : D' ≠ some R) :
    Reel ((w.setCell ⟨R, 1, none⟩ V).setCell ⟨R, 2, none⟩ (.int .i64 s)) B R D' m' := by
  obtain ⟨v, hb, _, _⟩ := h.holds
  refine ⟨ok, h.at_, ⟨V, ?_, ?_, hV⟩, ha⟩
  · rw [block_set (block_set hb V), hc, hs, hl, hd]
    simp
  · exact ownsRow_setCell_other (ownsRow_setCell_other hown (by rw [hV]; exact ha) _) (by rw [hV]; exact ha) _

theorem cut_end {w w' : World} {B R : Nat} {D D' : Option Nat} {m m0 : M} {k : Nat} (h : Reel w' B R D' m0) (V : Value) (s : Int) (hk : k ≤ m0.xs.length)
    (hown : w'.ownsRow B 5 1 V k ((m0.xs.take k).map (Value.int .u8))) (hV : V.ownBlock = D') (hs : s = min m0.safe k) (hkp : Keeps (fun k => k = R ∨ some k = D) w w') (hD : D' = D ∨ ∃ k, D' = some k ∧ w.heap.size ≤ k)
    (he : m.cut k = (0, { m0 with xs := m0.xs.take k, safe := min m0.safe k })) :
    After w B R D (m.cut k) (.returned (.int .i64 0)) ((w'.setCell ⟨R, 1, none⟩ V).setCell ⟨R, 2, none⟩ (.int .i64 s)) := by
  have ok := h.ok
  have hl : (m0.xs.take k).length = k := by rw [List.length_take]; omega
  subst hs
  rw [he]
  refine ⟨rfl, D', h.set12 V _ ⟨ok.cap0, ok.cap1, ?_, ?_, ?_, ok.left0, ok.left1, fun x hx => ok.byte x (List.mem_of_mem_take hx)⟩ rfl rfl rfl rfl (by simp only [hl]; exact hown) hV h.apart, (hkp.setCell (fun _ => Or.inl rfl) _).setCell (fun _ => Or.inl rfl) _, hD⟩
  · simp only [hl]; have := ok.len; omega
  · have := ok.safe0; simp only; omega
  · simp only [hl]; omega

theorem cut_any (w : World) (B R : Nat) (D : Option Nat) (m : M) (h : Reel w B R D m) (n : Int) :
    Calls Tryd.prog 40 #[.pointer (some ⟨R, 0, none⟩), .int .i64 n] w (After w B R D (m.cut n)) := by
  obtain ⟨v, hb, hv, hD⟩ := h.holds
  obtain ⟨h0, h1, h2, h3, h4⟩ := reel_cells hb
  obtain ⟨a, c, rfl⟩ : ∃ a c, v = .slice a m.xs.length c := by
    rcases hv.2 with ⟨h, h'⟩ | ⟨g, cap, _, h, _⟩
    · exact ⟨_, _, by rw [h, h']⟩
    · exact ⟨_, _, h⟩
  by_cases hd : m.down = true
  · rw [hd] at h4
    have X := Lib.hid (show After w B R D (m.cut n) (.returned (.int .i64 11)) w by
      rw [show m.cut n = (11, m) by simp only [M.cut, if_pos hd]]
      exact ⟨rfl, D, h, Keeps.refl _ _, Or.inl rfl⟩)
    clear h0 h1 h2 h3 hd hb hv h
    go_enter Tryd.func40, Tryd.ntmps40
    go_wp2
    go_ret
    exact X.out
  · have hd' : m.down = false := by simpa using hd
    rw [hd'] at h4
    by_cases hr : n < 0 ∨ (m.xs.length : Int) < n
    · have X := Lib.hid (show After w B R D (m.cut n) (.returned (.int .i64 12)) w by
        rw [show m.cut n = (12, m) by simp only [M.cut]; rw [if_neg hd, if_pos hr]]
        exact ⟨rfl, D, h, Keeps.refl _ _, Or.inl rfl⟩)
      clear h0 h2 h3 hd hb hv h hd'
      rcases hr with hr | hr
      · have t : decide (n < 0) = true := by simpa using hr
        go_enter Tryd.func40, Tryd.ntmps40
        go_wp2
        go_ret
        exact X.out
      · have t : decide (n < 0) = false := by simp; omega
        go_enter Tryd.func40, Tryd.ntmps40
        go_wp2
        go_ret
        exact X.out
    · have C := Lib.hid (spend_any w B R D m h hd')
      have H := Lib.hid h
      have t : decide (n < 0) = false := by simp; omega
      obtain ⟨k, rfl⟩ := Int.eq_ofNat_of_zero_le (show 0 ≤ n by omega)
      have hk0 : k ≤ m.xs.length := by omega
      clear h0 h2 h3 hb hv hD h
      go_enter Tryd.func40, Tryd.ntmps40
      go_wp2_with fail
      refine C.out.mono ?_
      rintro e w' ⟨rfl, D', hr, hk, hD'⟩
      obtain ⟨v', hb', hv', hE⟩ := hr.holds
      obtain ⟨k0, k1, k2, k3, k4⟩ := reel_cells hb'
      have f1 := reel_free hb' 1
      have f2 := reel_free hb' 2
      by_cases c0 : m.left = 0
      · have t : (m.spend.1 != 0) = true := by simp [M.spend, c0]
        have e : m.spend = m.cut k := by
          simp only [M.cut]
          rw [if_neg hd, if_neg (by omega), if_pos c0]
        have X := Lib.hid (show After w B R D (m.cut k) (.returned (.int .i64 m.spend.1)) w' by rw [← e]; exact ⟨rfl, D', hr, hk, hD'⟩)
        clear k0 k1 k2 k3 k4 hr hb' hv' hk hD' hE e
        go_wp2_with fail
        go_ret
        exact X.out
      · have t : (m.spend.1 != 0) = false := by simp only [M.spend, if_neg c0]; split <;> rfl
        have e : m.cut k = (0, { m.spend.2 with xs := m.spend.2.xs.take k, safe := min m.spend.2.safe k }) := by
          simp only [M.cut]
          rw [if_neg hd, if_neg (by omega), if_neg c0, spend_xs, spend_safe]
          simp
        clear k0 k1 k2 k3 k4 f1 f2 hb' hv' hE hd
        have exs := spend_xs m
        rcases hr.open with ⟨hb', hx, hDn⟩ | ⟨g, c', cur, hb', hDn, hBg, hgR, hgc, hl1, hl2, hcs, htk⟩
        · obtain ⟨k0, k1, k2, k3, k4⟩ := reel_cells hb'
          have f1 := reel_free hb' 1
          have f2 := reel_free hb' 2
          have hx' : m.xs = [] := exs ▸ hx
          obtain rfl : k = 0 := by rw [hx'] at hk0; simpa using hk0
          have Y := Lib.hid (And.intro (And.intro hr hk) (And.intro hD' (And.intro e (And.intro hb' (And.intro hx hDn)))))
          clear hx hx' hDn e exs hr hk hD' hb'
          go_wp2_with fail
          all_goals
            go_ret
            obtain ⟨⟨hr, hk⟩, hD', e, hb', hx, rfl⟩ := Y.out
            exact cut_end hr _ _ (by simp) (by simpa using World.ownsRow_nil _ _ _ _) rfl (by simp only [Int.natCast_zero]; omega) hk hD' e
        · obtain ⟨k0, k1, k2, k3, k4⟩ := reel_cells hb'
          have f1 := reel_free hb' 1
          have f2 := reel_free hb' 2
          have hkc : k ≤ c' := by rw [exs] at hl1; omega
          have Y := Lib.hid (And.intro (And.intro hr hk) (And.intro hD' (And.intro e (And.intro hb' (And.intro htk hDn)))))
          clear hDn e exs hr hk hD' hb' htk
          go_wp2_with fail
          all_goals
            go_ret
            obtain ⟨⟨hr, hk⟩, hD', e, hb', htk, rfl⟩ := Y.out
            obtain ⟨v2, hb2, hv2, hE⟩ := hr.holds
            rw [hb'] at hb2
            simp only [Option.some.injEq, Obj.cells.injEq, Array.mk.injEq, List.cons.injEq, and_true, true_and] at hb2
            subst hb2
            exact cut_end hr _ _ (by rw [spend_xs]; exact hk0) (by rw [List.map_take]; exact own_take hv2 (by rw [spend_xs]; exact hk0)) rfl (by omega) hk hD' e
end Go.Proofs.YthddjfaeacmlhaaDoor.Re
