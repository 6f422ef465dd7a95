/- The contracts of settle and Open. -/
import Derived.Test.YthddjfaeacmlhaaDoorJOA
namespace Go.Proofs.YthddjfaeacmlhaaDoor
open Go.RowKit Jr
set_option linter.unusedVariables false

/-- What settle does. -/
def settleM (m : Re.M) (E : Nat) : Int × Re.M :=
  if E < m.xs.length then (if (m.cut E).1 = 0 then (m.cut E).2.sync else m.cut E) else m.sync
theorem settle_any (W : World) (B R : Nat) (D : Option Nat) (m : Re.M) (h : Re.Reel W B R D m) (E : Nat) (hE : E ≤ 16777216) (r : Int × Re.M) (hr : settleM m E = r) :
    Calls Tryd.prog 32 #[.pointer (some ⟨R, 0, none⟩), .int .i64 E] W (Re.After W B R D r) := by
  have C0 := Lib.hid (Re.size_any W B R D m h)
  have hl := h.ok.len
  have hc := h.ok.cap1
  by_cases hlt : E < m.xs.length
  · have t0 : decide ((E : Int) < (m.xs.length : Int)) = true := by simp; omega
    have C1 := Re.cut_any W B R D m h E
    obtain ⟨f, m1, hf⟩ : ∃ f m1, m.cut E = (f, m1) := ⟨_, _, rfl⟩
    rw [hf] at C1
    have C1 := Lib.hid C1
    simp only [settleM, if_pos hlt, hf] at hr
    by_cases h0 : f = 0
    · subst h0
      rw [if_pos rfl] at hr
      have HR := Lib.hid hr
      clear hr hf h
      go_enter Tryd.func32, Tryd.ntmps32
      go_wp2_with fail
      refine C0.out.mono ?_
      rintro e w1 ⟨rfl, rfl⟩
      go_wp2_with fail
      refine C1.out.mono ?_
      rintro e W1 ⟨rfl, D1, hr1, hk1, hd1⟩
      have C2 := Re.sync_any W1 B R D1 m1 hr1
      rw [HR.out] at C2
      have C2 := Lib.hid C2
      have HK := Lib.hid (And.intro hk1 hd1)
      clear hr1 hk1 hd1
      go_wp2_with fail
      refine C2.out.mono ?_
      intro e W2 ha
      have X := Lib.hid (Re.After.step HK.out.1 HK.out.2 ha)
      obtain ⟨rfl, _⟩ := ha
      go_wp2_with fail
      go_ret
      exact X.out
    · rw [if_neg h0] at hr
      subst hr
      have u0 : (f == 0) = false := by simpa using h0
      have u1 : (f != 0) = true := by simpa using h0
      have u2 : decide (f = 0) = false := by simpa using h0
      clear hf h
      go_enter Tryd.func32, Tryd.ntmps32
      go_wp2_with fail
      refine C0.out.mono ?_
      rintro e w1 ⟨rfl, rfl⟩
      go_wp2_with fail
      refine C1.out.mono ?_
      intro e W1 ha
      have X := Lib.hid ha
      obtain ⟨rfl, _⟩ := ha
      go_wp2_with fail
      go_ret
      exact X.out
  · have t0 : decide ((E : Int) < (m.xs.length : Int)) = false := by simp; omega
    simp only [settleM, if_neg hlt] at hr
    have C2 := Re.sync_any W B R D m h
    rw [hr] at C2
    have C2 := Lib.hid C2
    clear hr h
    go_enter Tryd.func32, Tryd.ntmps32
    go_wp2_with fail
    refine C0.out.mono ?_
    rintro e w1 ⟨rfl, rfl⟩
    go_wp2_with fail
    refine C2.out.mono ?_
    intro e W2 ha
    have X := Lib.hid ha
    obtain ⟨rfl, _⟩ := ha
    go_wp2_with fail
    go_ret
    exact X.out

/-- Blocks that a list may lie in: new ones, and neither the journal's nor the reel's. -/
def Far (W : World) (J : Nat) (D : Option Nat) (k : Nat) : Prop := W.heap.size ≤ k ∧ k ≠ J ∧ some k ≠ D
def RD (R : Nat) (D : Option Nat) (k : Nat) : Prop := k = R ∨ some k = D
/-- Behind Open, when all went well. -/
def Opened (W : World) (B R : Nat) (D : Option Nat) (m' : Re.M) (l : List (List Nat)) (E : Nat) (e : Ending) (W' : World) : Prop :=
  ∃ aa c J D', e = .returned (.tuple #[.pointer (some ⟨J, 0, none⟩), .slice aa l.length c, .int .i64 0]) ∧ Jn W' B R J D' m' E false ∧ Tx W' (Far W J D') aa l.length c l ∧
    Re.Keeps (RD R D) W W' ∧ (D' = D ∨ ∃ k, D' = some k ∧ W.heap.size ≤ k) ∧ W.heap.size ≤ J
/-- Behind Open, when the reel went down. -/
def Failed (W : World) (B R : Nat) (D : Option Nat) (f : Int) (m' : Re.M) (e : Ending) (W' : World) : Prop :=
  ∃ D', e = .returned (.tuple #[.pointer none, .slice none 0 0, .int .i64 f]) ∧ Re.Reel W' B R D' m' ∧ Re.Keeps (RD R D) W W' ∧ (D' = D ∨ ∃ k, D' = some k ∧ W.heap.size ≤ k)
theorem read_arg {W1 : World} {g n : Nat} {l : List Nat} (hb : Byte l) (hl : l.length = n) (h : W1.heap[g]? = some (.cells (bys l).toArray 5 (0, 0))) : Arg W1 (some ⟨g, 0, none⟩) n n l := by
  refine ⟨⟨hl, hb, fun _ => ⟨g, 0, rfl, fun j y hj => ?_⟩⟩, Nat.le_refl _, fun e => by cases e⟩
  have h2 : (bys l)[j]? = some (.int .u8 (y : Int)) := by unfold bys; rw [List.getElem?_map, hj]; rfl
  simp [World.cell?, h, h2]
set_option maxHeartbeats 1600000 in
theorem open_read (W : World) (B R : Nat) (D : Option Nat) (m : Re.M) (h : Re.Reel W B R D m) (hd : m.down = false) (l : List Nat) (hx : m.xs = ints l) (hb : Byte l) :
    Calls Tryd.prog 21 #[.pointer (some ⟨R, 0, none⟩), .int .i64 0, .int .i64 (l.length : Nat)] W fun e W' => e = .returned (.tuple #[.slice (some ⟨W.heap.size, 0, none⟩) l.length l.length, .int .i64 0]) ∧ Arg W' (some ⟨W.heap.size, 0, none⟩) l.length l.length l ∧ Below W.heap.size W W' := by
  have hll : m.xs.length = l.length := by rw [hx, ints_length]
  have C := Re.read_ok W B R D m h 0 l.length hd (by omega)
  refine C.mono ?_
  rintro e W' ⟨he, hh, hbl⟩
  refine ⟨he, read_arg hb rfl ?_, hbl⟩
  rw [hh, List.drop_zero, List.take_of_length_le (by omega), hx, ints_cells]
set_option maxHeartbeats 1600000 in
theorem open_ok (W : World) (B R : Nat) (D : Option Nat) (m : Re.M) (h : Re.Reel W B R D m) (hB : B ≤ W.heap.size) (hd : m.down = false) (l : List Nat) (hx : m.xs = ints l) (hb : Byte l) (hF : Fours W) (m' : Re.M) (hr : settleM m (scan l).2 = (0, m')) :
    Calls Tryd.prog 16 #[.pointer (some ⟨R, 0, none⟩)] W (Opened W B R D m' (scan l).1 (scan l).2) := by
  have hll : m.xs.length = l.length := by rw [hx, ints_length]
  have C0 := Re.size_any W B R D m h
  rw [hll] at C0
  have C0 := Lib.hid C0
  have C1 := Lib.hid (open_read W B R D m h hd l hx hb)
  have hln : l.length ≤ 16777216 := by have h1 := h.ok.len; have h2 := h.ok.cap1; omega
  have hEl := (scan_found hb).2.1
  obtain ⟨ps, E, hs⟩ : ∃ ps E, scan l = (ps, E) := ⟨_, _, rfl⟩
  rw [hs] at hr hEl ⊢
  simp only at hr hEl ⊢
  have HS := Lib.hid hs
  have H := Lib.hid (And.intro h (And.intro hr (And.intro hF hB)))
  clear h hr hF hs hx hll hB
  go_enter Tryd.func16, Tryd.ntmps16
  go_wp2_with fail
  refine C0.out.mono ?_
  rintro e w1 ⟨rfl, rfl⟩
  go_wp2_with fail
  refine C1.out.mono ?_
  rintro e W1 ⟨rfl, hA, hb1⟩
  have C2 := scan_any W1 _ _ _ l hA hln (H.out.2.2.1.below hb1)
  rw [HS.out] at C2
  have C2 := Lib.hid C2
  have HB1 := Lib.hid hb1
  clear hA hb1
  go_wp2_with fail
  refine C2.out.mono ?_
  rintro e W2 ⟨a2, c2, rfl, hT2, hb2⟩
  have hk2 := below_more HB1.out hb2 (Nat.le_refl _)
  have hR2 : Re.Reel W2 B R D m := H.out.1.kept (hk2.block _ H.out.1.lt) (fun k e => hk2.block _ (H.out.1.data_lt e).2)
  have C3 := Lib.hid (settle_any W2 B R D m hR2 E (by omega) _ H.out.2.1)
  have HT2 := Lib.hid hT2
  have HK2 := Lib.hid (And.intro hk2 (And.intro HB1.out.size (And.intro hR2.lt (fun k (e : D = some k) => (H.out.1.data_lt e).2))))
  have HR1 := Lib.hid H.out.1.lt
  clear hT2 hb2 hk2 hR2
  go_wp2_with fail
  refine C3.out.mono ?_
  rintro e W3 ⟨rfl, D3, hr3, hk3, hd3⟩
  have X := Lib.hid (show Opened W B R D m' ps E (.returned (.tuple #[.pointer (some ⟨W3.heap.size, 0, none⟩), .slice a2 ps.length c2, .int .i64 0])) (W3.alloc (.cells #[.pointer (some ⟨R, 0, none⟩), .int .i64 E, .bool false] 62)) from by
    obtain ⟨k2, s1, hRl, hDl⟩ := HK2.out
    have hs23 := hk3.size
    have hlt : ∀ k, D3 = some k → k < W3.heap.size := fun k e => (hr3.data_lt e).2
    have ekb : ∀ k, k < W3.heap.size → (W3.alloc (.cells #[.pointer (some ⟨R, 0, none⟩), .int .i64 E, .bool false] 62)).heap[k]? = W3.heap[k]? := fun k hk => Below.heap_alloc _ _ _ hk
    refine ⟨a2, c2, W3.heap.size, D3, rfl, ⟨hr3.kept (ekb _ hr3.lt) (fun k e => ekb _ (hlt k e)), heap_alloc_new _ _, ?_, ?_, ?_⟩, ?_, ?_, ?_, ?_⟩
    · exact Nat.le_trans (Nat.le_trans H.out.2.2.2 k2.size) hs23
    · have := hr3.lt; omega
    · intro e; have := hlt _ e; omega
    · refine ((HT2.out.mono (Q := fun k => W1.heap.size ≤ k ∧ k < W2.heap.size) (fun k hk h => ⟨h, hk⟩)).keep (w' := W3.alloc (.cells #[.pointer (some ⟨R, 0, none⟩), .int .i64 E, .bool false] 62)) ?_).mono ?_
      · intro k hk hp
        rw [ekb k (by omega)]
        refine hk3.block k hk ?_
        rintro (e | e)
        · have := HR1.out; omega
        · have := hDl k e.symm; omega
      · rintro k _ ⟨h1, h2⟩
        refine ⟨by omega, by omega, fun e => ?_⟩
        rcases hd3 with e2 | ⟨k', e2, hk'⟩
        · have := hDl k (by rw [← e2, ← e]); omega
        · rw [e2] at e; simp only [Option.some.injEq] at e; omega
    · exact keeps_fresh k2 (hk3.alloc _)
    · rcases hd3 with e2 | ⟨k', e2, hk'⟩
      · exact Or.inl e2
      · exact Or.inr ⟨k', e2, Nat.le_trans k2.size hk'⟩
    · exact Nat.le_trans k2.size hs23)
  clear hr3 hk3 hd3
  go_wp2_with fail
  go_ret3
  exact X.out
set_option maxHeartbeats 1600000 in
theorem open_bad (W : World) (B R : Nat) (D : Option Nat) (m : Re.M) (h : Re.Reel W B R D m) (hd : m.down = false) (l : List Nat) (hx : m.xs = ints l) (hb : Byte l) (hF : Fours W) (f : Int) (m' : Re.M) (hr : settleM m (scan l).2 = (f, m')) (hf : f ≠ 0) :
    Calls Tryd.prog 16 #[.pointer (some ⟨R, 0, none⟩)] W (Failed W B R D f m') := by
  have hll : m.xs.length = l.length := by rw [hx, ints_length]
  have C0 := Re.size_any W B R D m h
  rw [hll] at C0
  have C0 := Lib.hid C0
  have C1 := Lib.hid (open_read W B R D m h hd l hx hb)
  have hln : l.length ≤ 16777216 := by have h1 := h.ok.len; have h2 := h.ok.cap1; omega
  have hEl := (scan_found hb).2.1
  obtain ⟨ps, E, hs⟩ : ∃ ps E, scan l = (ps, E) := ⟨_, _, rfl⟩
  rw [hs] at hr hEl
  simp only at hr hEl
  have HS := Lib.hid hs
  have H := Lib.hid (And.intro h (And.intro hr hF))
  have u0 : (f == 0) = false := by simpa using hf
  have u1 : (f != 0) = true := by simpa using hf
  have u2 : decide (f = 0) = false := by simpa using hf
  clear h hr hF hs hx hll
  go_enter Tryd.func16, Tryd.ntmps16
  go_wp2_with fail
  refine C0.out.mono ?_
  rintro e w1 ⟨rfl, rfl⟩
  go_wp2_with fail
  refine C1.out.mono ?_
  rintro e W1 ⟨rfl, hA, hb1⟩
  have C2 := scan_any W1 _ _ _ l hA hln (H.out.2.2.below hb1)
  rw [HS.out] at C2
  have C2 := Lib.hid C2
  have HB1 := Lib.hid hb1
  clear hA hb1
  go_wp2_with fail
  refine C2.out.mono ?_
  rintro e W2 ⟨a2, c2, rfl, hT2, hb2⟩
  have hk2 := below_more HB1.out hb2 (Nat.le_refl _)
  have hR2 : Re.Reel W2 B R D m := H.out.1.kept (hk2.block _ H.out.1.lt) (fun k e => hk2.block _ (H.out.1.data_lt e).2)
  have C3 := Lib.hid (settle_any W2 B R D m hR2 E (by omega) _ H.out.2.1)
  have HK2 := Lib.hid hk2
  clear hT2 hb2 hk2 hR2
  go_wp2_with fail
  refine C3.out.mono ?_
  rintro e W3 ⟨rfl, D3, hr3, hk3, hd3⟩
  have X := Lib.hid (show Failed W B R D f m' (.returned (.tuple #[.pointer none, .slice none 0 0, .int .i64 f])) W3 from by
    refine ⟨D3, rfl, hr3, keeps_fresh HK2.out hk3, ?_⟩
    rcases hd3 with e2 | ⟨k', e2, hk'⟩
    · exact Or.inl e2
    · exact Or.inr ⟨k', e2, Nat.le_trans HK2.out.size hk'⟩)
  clear hr3 hk3 hd3
  go_wp2_with fail
  go_ret3
  exact X.out
end Go.Proofs.YthddjfaeacmlhaaDoor
