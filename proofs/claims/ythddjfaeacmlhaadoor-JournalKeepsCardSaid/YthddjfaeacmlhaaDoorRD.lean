/- The contract of the reel's Append. -/
import Derived.Test.YthddjfaeacmlhaaDoorRC
import Derived.Deep.DeepMust
import Derived.Laws.AppendOwnNone
import Derived.Maps.AppendAt
namespace Go.Proofs.YthddjfaeacmlhaaDoor.Re
open Go.RowKit

theorem info5 : (Tryd.prog.info? 5).map (fun i => (i.zero, i.size, i.bytes)) = some (some (.int .u8 0), 1, 1) := by kernel_rfl

/-- Bytes that a slice value leads to: nil, or cells that hold them. -/
def Src (w : World) (a : Option Addr) (n : Nat) (ys : List Int) : Prop :=
  ys.length = n ∧ (∀ y ∈ ys, 0 ≤ y ∧ y ≤ 255) ∧ ((a = none ∧ n = 0) ∨ ∃ ad, a = some ad ∧ ∀ j u, (ys.map (Value.int .u8))[j]? = some u → w.cell? (ad.add j) = some u)

def M.append (m : M) (ys : List Int) : Int × M :=
  if m.down then (11, m) else if m.cap - m.xs.length < ys.length then (10, m) else M.spend { m with xs := m.xs ++ ys }

theorem append_down (w : World) (B R : Nat) (D : Option Nat) (m : M) (h : Reel w B R D m) (a : Option Addr) (n c : Nat) (ys : List Int) (hd : m.down = true) :
    Calls Tryd.prog 34 #[.pointer (some ⟨R, 0, none⟩), .slice a n c] w (After w B R D (m.append ys)) := by
  obtain ⟨v, hb, hv, hD⟩ := h.holds
  obtain ⟨h0, h1, h2, h3, h4⟩ := reel_cells hb
  rw [hd] at h4
  have X := Lib.hid (show After w B R D (m.append ys) (.returned (.int .i64 11)) w by
    rw [show m.append ys = (11, m) by simp only [M.append, if_pos hd]]
    exact ⟨rfl, D, h, Keeps.refl _ _, Or.inl rfl⟩)
  clear h0 h1 h2 h3 hd hb hv h
  go_enter Tryd.func34, Tryd.ntmps34
  go_wp2
  go_ret
  exact X.out

theorem append_full (w : World) (B R : Nat) (D : Option Nat) (m : M) (h : Reel w B R D m) (a : Option Addr) (n c : Nat) (ys : List Int) (hn : ys.length = n) (hd : m.down = false) (hf : m.cap - m.xs.length < n) (hn2 : n ≤ maxLen) :
    Calls Tryd.prog 34 #[.pointer (some ⟨R, 0, none⟩), .slice a n c] w (After w B R D (m.append ys)) := by
  obtain ⟨v, hb, hv, hD⟩ := h.holds
  obtain ⟨h0, h1, h2, h3, h4⟩ := reel_cells hb
  rw [hd] at h4
  obtain ⟨av, cv, rfl⟩ : ∃ a c, v = .slice a m.xs.length c := by
    rcases hv.2 with ⟨h, h'⟩ | ⟨g, cap, _, h, _⟩
    · exact ⟨_, _, by rw [h, h']⟩
    · exact ⟨_, _, h⟩
  have X := Lib.hid (fun q : Nat => show After w B R D (m.append ys) (.returned (.int .i64 10)) (w.drewN q) by
    rw [show m.append ys = (10, m) by simp only [M.append]; rw [if_neg (by simp [hd]), if_pos (by omega)]]
    exact ⟨rfl, D, h.kept rfl (fun _ _ => rfl), (Keeps.refl _ _).drewN _, Or.inl rfl⟩)
  have hl0 := h.ok.len
  have hc0 := h.ok.cap1
  unfold maxLen at hn2
  clear h2 h3 hd hb hv h hn
  go_enter Tryd.func34, Tryd.ntmps34
  go_wp2
  go_quiet (fail)
  go_wp2
  go_ret
  exact X.out _

/-- The data's value set. -/
theorem Reel.set1 {w w1 : World} {B R : Nat} {D D' : Option Nat} {m m' : M} (h : Reel w B R D m) (hR : w1.heap[R]? = w.heap[R]?) (V : Value) (ok : m'.Ok)
    (hc : m'.cap = m.cap) (hs : m'.safe = m.safe) (hl : m'.left = m.left) (hd : m'.down = m.down)
    (hown : w1.ownsRow B 5 1 V m'.xs.length (m'.xs.map (Value.int .u8))) (hV : V.ownBlock = D') (ha : D' ≠ some R) :
    Reel (w1.setCell ⟨R, 1, none⟩ V) B R D' m' := by
  obtain ⟨v, hb, _, _⟩ := h.holds
  refine ⟨ok, h.at_, ⟨V, ?_, ?_, hV⟩, ha⟩
  · rw [block_set (hR.trans hb) V, hc, hs, hl, hd]
    simp
  · exact ownsRow_setCell_other hown (by rw [hV]; exact ha) _

/-- Two steps of one reel. -/
theorem After.step {w W w' : World} {B R : Nat} {D D1 : Option Nat} {r : Int × M} {e : Ending} (hk : Keeps (fun k => k = R ∨ some k = D) w W) (hD : D1 = D ∨ ∃ k, D1 = some k ∧ w.heap.size ≤ k) (h : After W B R D1 r e w') : After w B R D r e w' := by
  obtain ⟨he, D', hr, hk', hD'⟩ := h
  refine ⟨he, D', hr, hk.trans hk' ?_, ?_⟩
  · intro i hi h
    rcases h with h | h
    · exact Or.inl h
    · rcases hD with rfl | ⟨k, rfl, hk2⟩
      · exact Or.inr h
      · simp only [Option.some.injEq] at h; omega
  · rcases hD' with rfl | ⟨k, h1, h2⟩
    · exact hD
    · exact Or.inr ⟨k, h1, Nat.le_trans hk.size h2⟩

theorem append_fits (w : World) (B R : Nat) (D : Option Nat) (m : M) (h : Reel w B R D m) (hB : B ≤ w.heap.size) (a : Option Addr) (n c : Nat) (ys : List Int) (hs : Src w a n ys) (hac : a = none → c = 0) (hd : m.down = false) (hf : (n : Int) ≤ m.cap - m.xs.length) :
    Calls Tryd.prog 34 #[.pointer (some ⟨R, 0, none⟩), .slice a n c] w (After w B R D (m.append ys)) := by
  obtain ⟨v, hb, hv, hD⟩ := h.holds
  obtain ⟨h0, h1, h2, h3, h4⟩ := reel_cells hb
  rw [hd] at h4
  obtain ⟨av, cv, rfl⟩ : ∃ a c, v = .slice a m.xs.length c := by
    rcases hv.2 with ⟨h, h'⟩ | ⟨g, cap, _, h, _⟩
    · exact ⟨_, _, by rw [h, h']⟩
    · exact ⟨_, _, h⟩
  have hl0 := h.ok.len
  have hc0 := h.ok.cap1
  have H := Lib.hid h
  have HV := Lib.hid (fun q : Nat => show (w.drewN q).ownsRow B 5 1 (.slice av m.xs.length cv) m.xs.length (m.xs.map (Value.int .u8)) from hv)
  have f1 := reel_free hb 1
  have HD := Lib.hid hD
  obtain ⟨i0, hi, hz0, hz1, hz2⟩ := info_parts info5
  obtain ⟨hn, hby, hs⟩ := hs
  rcases hs with ⟨rfl, rfl⟩ | ⟨ad, rfl, hcells⟩
  · obtain rfl := hac rfl
    obtain rfl : ys = [] := List.eq_nil_of_length_eq_zero hn
    have t0 : (0 : Int) ≤ m.cap - m.xs.length := by omega
    clear h2 h3 hb hv h hac hD hf hn hby
    go_enter Tryd.func34, Tryd.ntmps34
    go_wp2
    go_quiet (fail)
    go_wp2_with (at_builtin; go_must (refine wpList_append_own_none rfl (.tmp 26) (.tmp 27) 22 rfl B 5 i0 1 Tryd.underlying22 hi _ _ _ rfl (HV.out nq) rfl ?_))
    have h := H.out
    have hr : Reel ((w.drewN nq).setCell ⟨R, 1, none⟩ (.slice av m.xs.length cv)) B R D m := h.set1 (w1 := w.drewN nq) rfl _ h.ok rfl rfl rfl rfl (HV.out nq) HD.out h.apart
    refine (spend_any _ B R D m hr hd).mono ?_
    intro e w' hA
    have X := Lib.hid (show After w B R D (m.append []) e w' by
      rw [show m.append [] = m.spend by simp only [M.append]; rw [if_neg (by simp [hd]), if_neg (by simp only [List.length_nil]; omega), List.append_nil]]
      exact After.step (((Keeps.refl _ _).drewN _).setCell (fun _ => Or.inl rfl) _) (Or.inl rfl) hA)
    obtain ⟨rfl, _⟩ := hA
    go_wp2_with fail
    go_ret
    exact X.out
  · have HN := Lib.hid hn
    have HA := Lib.hid (show m.append ys = M.spend { m with xs := m.xs ++ ys } by simp only [M.append]; rw [if_neg (by simp [hd]), if_neg (by omega)])
    clear h2 h3 hb hv h hac hD hn
    go_enter Tryd.func34, Tryd.ntmps34
    go_wp2
    go_quiet (fail)
    go_wp2_with (at_builtin; go_must (refine wpList_append_own_at _ rfl (.tmp 26) (.tmp 27) 22 rfl B 5 i0 (.int .u8 0) 1 1 Tryd.underlying22 hi hz0 hz1 hz2 rfl (by decide) _ _ _ rfl (HV.out nq) ad n c (ys.map (Value.int .u8)) rfl ?c1 ?c2 ?c3 ?c4 ?c5 ?c6 ?c7))
    case c1 => simpa using HN.out
    case c2 => exact hcells
    case c3 => intro u hu; simp only [List.mem_map] at hu; obtain ⟨y, _, rfl⟩ := hu; rfl
    case c4 => unfold maxLen; omega
    case c5 => omega
    case c6 => exact hB
    case c7 =>
      intro v' w1 hown hgrow hnil hat
      have h := H.out
      have hn := HN.out
      have hR : w1.heap[R]? = (w.drewN nq).heap[R]? := hgrow.block R h.lt (by rw [HD.out]; exact fun e => h.apart e.symm)
      have hD1 : v'.ownBlock = D ∨ ∃ k, v'.ownBlock = some k ∧ w.heap.size ≤ k := by
        rcases hat with e | e
        · exact Or.inl (e.trans HD.out)
        · exact Or.inr ⟨_, e, Nat.le_refl _⟩
      have ha : v'.ownBlock ≠ some R := by
        rcases hD1 with e | ⟨k, e, hk⟩
        · rw [e]; exact h.apart
        · rw [e]; have := h.lt; simp; omega
      have ok := h.ok
      have hr : Reel (w1.setCell ⟨R, 1, none⟩ v') B R v'.ownBlock { m with xs := m.xs ++ ys } :=
        h.set1 hR v' ⟨ok.cap0, ok.cap1, by simp only [List.length_append]; omega, ok.safe0, by have := ok.safe1; simp only [List.length_append]; omega, ok.left0, ok.left1, by
          intro x hx
          rcases List.mem_append.1 hx with hx | hx
          · exact ok.byte x hx
          · exact hby x hx⟩ rfl rfl rfl rfl (by simp only [List.length_append, List.map_append, hn]; exact hown) rfl ha
      have hk : Keeps (fun k => k = R ∨ some k = D) w (w1.setCell ⟨R, 1, none⟩ v') :=
        (((Keeps.refl (fun k => k = R ∨ some k = D) w).drewN nq).grown hgrow (fun k _ e => Or.inr (e.symm.trans HD.out))).setCell (p := ⟨R, 1, none⟩) (fun _ => Or.inl rfl) _
      have C := Lib.hid (spend_any _ B R _ _ hr hd)
      have k1 : w1.cell? ⟨R, 1, none⟩ = some (.slice av m.xs.length cv) := by
        rw [← h1]; exact World.cell?_of_block (w := w) hR
      have f1' : w1.frozen? ⟨R, 1, none⟩ = false := by
        rw [← f1]; exact World.frozen?_of_block (w := w) hR
      obtain ⟨va, vn, vc, rfl⟩ : ∃ a n c, v' = .slice a n c := by
        rcases hown.2 with ⟨h, _⟩ | ⟨g, cap, _, h, _⟩
        · exact ⟨_, _, _, h⟩
        · exact ⟨_, _, _, h⟩
      have HK := Lib.hid (And.intro hk hD1)
      clear hk hD1 hr hR hown hgrow hnil hat hcells h hn ha ok hf hl0 hc0 h0 h4 h1 f1 hby hd
      go_wp2_with fail
      refine C.out.mono ?_
      intro e w' hA
      have X := Lib.hid (show After w B R D (m.append ys) e w' by
        rw [show m.append ys = M.spend { m with xs := m.xs ++ ys } from HA.out]
        exact After.step HK.out.1 HK.out.2 hA)
      obtain ⟨rfl, _⟩ := hA
      go_wp2_with fail
      go_ret
      exact X.out
end Go.Proofs.YthddjfaeacmlhaaDoor.Re
