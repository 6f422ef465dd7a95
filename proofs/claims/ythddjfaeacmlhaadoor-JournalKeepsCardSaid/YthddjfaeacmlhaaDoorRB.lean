/- The contracts of the reel's small methods: New, Size, Safe, Down, Arm, Sync. -/
import Derived.Test.YthddjfaeacmlhaaDoorRA
import Derived.Lib.Hide
import Derived.BigQuiet
import Derived.Deep.QuietTactic
namespace Go.Proofs.YthddjfaeacmlhaaDoor.Re
open Go.RowKit

def M.new (cap : Int) : M := { cap := cap, xs := [], safe := 0, left := -1, down := false }

theorem new_yes (cap : Int) (w : World) (B : Nat) (hB : B ≤ w.heap.size) (h0 : 0 ≤ cap) (h1 : cap ≤ 16777216) :
    Calls Tryd.prog 15 #[.int .i64 cap] w fun e w' => e = .returned (.pointer (some ⟨w.heap.size, 0, none⟩)) ∧ Reel w' B w.heap.size none (M.new cap) ∧ w'.heap.size = w.heap.size + 1 ∧ Keeps (fun _ => False) w w' := by
  have t0 : decide (cap < 0) = false := by simp; omega
  go_enter Tryd.func15, Tryd.ntmps15
  go_wp2
  go_ret
  refine ⟨rfl, ⟨⟨h0, h1, by simpa [M.new] using h0, by simp [M.new], by simp [M.new], by simp [M.new], by simp [M.new], by simp [M.new]⟩, hB, ⟨.slice none 0 0, ?_, World.ownsRow_nil _ _ _ _, rfl⟩, by simp⟩, by simp, (Keeps.refl _ _).alloc _⟩
  rw [heap_alloc_new]; rfl

theorem new_no (cap : Int) (w : World) (h : cap < 0 ∨ 16777216 < cap) :
    Calls Tryd.prog 15 #[.int .i64 cap] w fun e w' => e = .returned (.pointer none) ∧ w = w' := by
  rcases h with h | h
  · go_enter Tryd.func15, Tryd.ntmps15
    go_wp2
    go_ret
    exact ⟨rfl, rfl⟩
  · have t0 : decide (cap < 0) = false := by simp; omega
    go_enter Tryd.func15, Tryd.ntmps15
    go_wp2
    go_ret
    exact ⟨rfl, rfl⟩

theorem size_any (w : World) (B R : Nat) (D : Option Nat) (m : M) (h : Reel w B R D m) :
    Calls Tryd.prog 22 #[.pointer (some ⟨R, 0, none⟩)] w fun e w' => e = .returned (.int .i64 m.xs.length) ∧ w = w' := by
  obtain ⟨v, hb, hv, hD⟩ := h.holds
  obtain ⟨h0, h1, h2, h3, h4⟩ := reel_cells hb
  obtain ⟨a, c, rfl⟩ : ∃ a c, v = .slice a m.xs.length c := by
    rcases hv.2 with ⟨h, h'⟩ | ⟨g, cap, _, h, _⟩
    · exact ⟨_, _, by rw [h, h']⟩
    · exact ⟨_, _, h⟩
  clear h0 h2 h3 h4
  go_enter Tryd.func22, Tryd.ntmps22
  go_wp2
  go_ret
  exact ⟨rfl, rfl⟩

theorem safe_any (w : World) (B R : Nat) (D : Option Nat) (m : M) (h : Reel w B R D m) :
    Calls Tryd.prog 23 #[.pointer (some ⟨R, 0, none⟩)] w fun e w' => e = .returned (.int .i64 m.safe) ∧ w = w' := by
  obtain ⟨v, hb, hv, hD⟩ := h.holds
  obtain ⟨h0, h1, h2, h3, h4⟩ := reel_cells hb
  clear h0 h1 h3 h4
  go_enter Tryd.func23, Tryd.ntmps23
  go_wp2
  go_ret
  exact ⟨rfl, rfl⟩

def M.arm (m : M) (n : Int) : M := { m with left := max n (-1) }

theorem arm_any (w : World) (B R : Nat) (D : Option Nat) (m : M) (h : Reel w B R D m) (n : Int) (hn : n ≤ 9223372036854775807) :
    Calls Tryd.prog 24 #[.pointer (some ⟨R, 0, none⟩), .int .i64 n] w fun e w' => e = .returned (.tuple #[]) ∧ Reel w' B R D (m.arm n) ∧ Keeps (fun k => k = R) w w' := by
  obtain ⟨v, hb, hv, hD⟩ := h.holds
  obtain ⟨h0, h1, h2, h3, h4⟩ := reel_cells hb
  have f3 := reel_free hb 3
  have ok := h.ok
  clear h0 h1 h2 h4
  have key : ∀ l : Int, l = max n (-1) → Reel (w.setCell ⟨R, 3, none⟩ (.int .i64 l)) B R D (m.arm n) ∧ Keeps (fun k => k = R) w (w.setCell ⟨R, 3, none⟩ (.int .i64 l)) := by
    intro l hl
    subst hl
    exact ⟨h.set ⟨ok.cap0, ok.cap1, ok.len, ok.safe0, ok.safe1, by simp [M.arm]; omega, by simp [M.arm]; omega, ok.byte⟩ rfl (by intro v; simp [M.arm]), (Keeps.refl (fun k => k = R) w).setCell (p := ⟨R, 3, none⟩) (fun _ => rfl) _⟩
  have K := Lib.hid key
  clear key hb hv ok h
  go_enter Tryd.func24, Tryd.ntmps24
  go_wp2
  · go_end0
    exact ⟨rfl, K.out _ (by omega)⟩
  · go_end0
    exact ⟨rfl, K.out _ (by omega)⟩

def M.sync (m : M) : Int × M :=
  if m.down then (11, m) else if m.left = 0 then m.spend else (0, { m.spend.2 with safe := m.xs.length })

theorem spend_xs (m : M) : m.spend.2.xs = m.xs := by
  unfold M.spend; split <;> (try split) <;> rfl

theorem sync_any (w : World) (B R : Nat) (D : Option Nat) (m : M) (h : Reel w B R D m) :
    Calls Tryd.prog 35 #[.pointer (some ⟨R, 0, none⟩)] w (After w B R D m.sync) := by
  obtain ⟨v, hb, hv, hD⟩ := h.holds
  obtain ⟨h0, h1, h2, h3, h4⟩ := reel_cells hb
  by_cases hd : m.down = true
  · rw [hd] at h4
    clear h0 h1 h2 h3
    go_enter Tryd.func35, Tryd.ntmps35
    go_wp2
    go_ret
    simp only [After, M.sync, if_pos hd]
    exact ⟨rfl, D, h, Keeps.refl _ _, Or.inl rfl⟩
  · have hd' : m.down = false := by simpa using hd
    rw [hd'] at h4
    have C := Lib.hid (spend_any w B R D m h hd')
    have H := Lib.hid h
    clear h0 h1 h2 h3 hb hv hD h
    go_enter Tryd.func35, Tryd.ntmps35
    go_wp2_with fail
    refine C.out.mono ?_
    rintro e w' ⟨rfl, D', hr, hk, hD'⟩
    obtain ⟨v', hb', hv', hE⟩ := hr.holds
    obtain ⟨k0, k1, k2, k3, k4⟩ := reel_cells hb'
    have f2 := reel_free hb' 2
    obtain ⟨a, c, rfl⟩ : ∃ a c, v' = .slice a m.spend.2.xs.length c := by
      rcases hv'.2 with ⟨h, h'⟩ | ⟨g, cap, _, h, _⟩
      · exact ⟨_, _, by rw [h, h']⟩
      · exact ⟨_, _, h⟩
    by_cases c0 : m.left = 0
    · have t : (m.spend.1 != 0) = true := by simp [M.spend, c0]
      have e : m.spend = m.sync := by simp [M.sync, hd', c0]
      have X := Lib.hid (show After w B R D m.sync (.returned (.int .i64 m.spend.1)) w' by rw [← e]; exact ⟨rfl, D', hr, hk, hD'⟩)
      clear k0 k1 k2 k3 k4 hr hb' hv' hk hD' hE e
      go_wp2_with fail
      go_ret
      exact X.out
    · have t : (m.spend.1 != 0) = false := by simp only [M.spend, if_neg c0]; split <;> rfl
      have e : m.sync = (0, { m.spend.2 with safe := m.xs.length }) := by simp [M.sync, hd', c0]
      have ok := hr.ok
      have X := Lib.hid (show After w B R D m.sync (.returned (.int .i64 0)) (w'.setCell ⟨R, 2, none⟩ (.int .i64 m.spend.2.xs.length)) by
        rw [e]
        refine ⟨rfl, D', hr.set ⟨ok.cap0, ok.cap1, ok.len, by simp, by rw [spend_xs]; simp, ok.left0, ok.left1, ok.byte⟩ rfl (by intro v; simp [spend_xs]), hk.setCell (fun _ => Or.inl rfl) _, hD'⟩)
      clear k0 k3 k4 hr hb' hv' hk hD' hE e ok
      go_wp2_with fail
      go_ret
      exact X.out
end Go.Proofs.YthddjfaeacmlhaaDoor.Re
