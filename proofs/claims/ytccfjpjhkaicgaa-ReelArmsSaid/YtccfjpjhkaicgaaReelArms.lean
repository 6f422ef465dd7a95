/-
  For every input the Go function ReelArms of the package scumblelaw01 returns true, and each of its arguments reads behind the call as it read before.
  Conditions: none beyond those of the row itself.
-/
import Derived.Test.YtccfjpjhkaicgaaRows
import Derived.Test.YtccfjpjhkaicgaaL
import Derived.WalkKit
import Derived.ProofKit
import Derived.OpenShut
import Derived.ShutString
import Derived.ChangeOld
import Derived.Below
namespace Go.Proofs.Ytccfjpjhkaicgaa.reelArms
open Go.ChangeShapes Go.WideShapes Go.ChangeAt Go.RowKit
open Go.ChangeMaps (open_string shut_string)
set_option linter.unusedVariables false

theorem own : ownKnob Try.prog.godebug = none := by kernel_rfl
theorem laidOut : laidOutB Try.prog = true := by kernel_rfl

/-- WHAT THE WALK IS TOLD OF A SLICE OF INTEGERS THAT CAME IN: it is nil; or it leads to a row of 'cap' cells, the numbers 'zs' (the first 'len' are its elements, the rest its spare room), each fitting its kind. -/
def IsRow (k : IntKind) (w : World) (a : Option Addr) (len cap : Nat) (zs : List Int) : Prop :=
  (a = none ∧ len = 0 ∧ cap = 0 ∧ zs = []) ∨
  ∃ x, a = some x ∧ len ≤ cap ∧ cap ≤ maxLen ∧ zs.length = cap ∧ (∀ i, i < zs.length → w.cell? (x.add i) = some (.int k (zs.getD i 0))) ∧ ∀ n ∈ zs, (Lit.int k n).wf = true


/-- The reel behind i calls, armed with n. -/
def Arms (n : Int) (i : Nat) (m : M) : Prop := m.cap = 1000 ∧ m.xs.length ≤ i ∧ (((i : Int) ≤ n ∧ m.left = n - i ∧ m.down = false) ∨ (n < i ∧ m.down = true))

theorem arms_app_yes {n : Int} {i : Nat} {m : M} (h : Arms n i m) (hi : (i : Int) < n) (hl : i ≤ 100) : m.append [1] = (0, (m.append [1]).2) ∧ Arms n (i + 1) (m.append [1]).2 := by
  obtain ⟨h1, h2, ⟨_, h3, h4⟩ | ⟨h3, _⟩⟩ := h
  · have e : m.append [1] = (0, { m with xs := m.xs ++ [1], left := m.left - 1 }) := by
      unfold M.append M.spend
      rw [if_neg (by simp [h4]), if_neg (by simp only [List.length_cons, List.length_nil]; omega)]
      simp only
      rw [if_neg (by omega), if_pos (by omega)]
    rw [e]
    exact ⟨rfl, h1, by simp only [List.length_append, List.length_cons, List.length_nil]; omega, Or.inl ⟨by omega, by simp only; omega, h4⟩⟩
  · omega
theorem arms_app_no {n : Int} {i : Nat} {m : M} (h : Arms n i m) (hi : ¬ (i : Int) < n) (hl : i ≤ 100) : m.append [1] = (11, (m.append [1]).2) ∧ Arms n (i + 1) (m.append [1]).2 := by
  obtain ⟨h1, h2, ⟨_, h3, h4⟩ | ⟨h3, h4⟩⟩ := h
  · have e : m.append [1] = (11, { m with xs := m.xs ++ [1], down := true }) := by
      unfold M.append M.spend
      rw [if_neg (by simp [h4]), if_neg (by simp only [List.length_cons, List.length_nil]; omega)]
      simp only
      rw [if_pos (by omega)]
    rw [e]
    exact ⟨rfl, h1, by simp only [List.length_append, List.length_cons, List.length_nil]; omega, Or.inr ⟨by omega, rfl⟩⟩
  · have e : m.append [1] = (11, m) := by
      unfold M.append
      rw [if_pos h4]
    rw [e]
    exact ⟨rfl, h1, by simp only; omega, Or.inr ⟨by omega, h4⟩⟩
theorem arms_syn_yes {n : Int} {i : Nat} {m : M} (h : Arms n i m) (hi : (i : Int) < n) (hl : i ≤ 100) : m.sync = (0, m.sync.2) ∧ Arms n (i + 1) m.sync.2 := by
  obtain ⟨h1, h2, ⟨_, h3, h4⟩ | ⟨h3, _⟩⟩ := h
  · have e : m.sync = (0, { m with safe := m.xs.length, left := m.left - 1 }) := by
      unfold M.sync M.spend
      rw [if_neg (by simp [h4]), if_neg (by omega)]
      simp only
      rw [if_neg (by omega), if_pos (by omega)]
    rw [e]
    exact ⟨rfl, h1, by simp only; omega, Or.inl ⟨by omega, by simp only; omega, h4⟩⟩
  · omega
theorem arms_syn_no {n : Int} {i : Nat} {m : M} (h : Arms n i m) (hi : ¬ (i : Int) < n) (hl : i ≤ 100) : m.sync = (11, m.sync.2) ∧ Arms n (i + 1) m.sync.2 := by
  obtain ⟨h1, h2, ⟨_, h3, h4⟩ | ⟨h3, h4⟩⟩ := h
  · have e : m.sync = (11, { m with down := true }) := by
      unfold M.sync M.spend
      rw [if_neg (by simp [h4]), if_pos (by omega), if_pos (by omega)]
    rw [e]
    exact ⟨rfl, h1, by simp only; omega, Or.inr ⟨by omega, rfl⟩⟩
  · have e : m.sync = (11, m) := by
      unfold M.sync
      rw [if_pos h4]
    rw [e]
    exact ⟨rfl, h1, by simp only; omega, Or.inr ⟨by omega, h4⟩⟩
theorem arms_cut_yes {n : Int} {i : Nat} {m : M} (h : Arms n i m) (hi : (i : Int) < n) (hl : i ≤ 100) : m.cut m.xs.length = (0, (m.cut m.xs.length).2) ∧ Arms n (i + 1) (m.cut m.xs.length).2 := by
  obtain ⟨h1, h2, ⟨_, h3, h4⟩ | ⟨h3, _⟩⟩ := h
  · have e : m.cut m.xs.length = (0, { m with safe := min m.safe m.xs.length, left := m.left - 1 }) := by
      unfold M.cut M.spend
      rw [if_neg (by simp [h4]), if_neg (by omega), if_neg (by omega)]
      simp only
      rw [if_neg (by omega), if_pos (by omega)]
      simp
    rw [e]
    exact ⟨rfl, h1, by simp only; omega, Or.inl ⟨by omega, by simp only; omega, h4⟩⟩
  · omega
theorem arms_cut_no {n : Int} {i : Nat} {m : M} (h : Arms n i m) (hi : ¬ (i : Int) < n) (hl : i ≤ 100) : m.cut m.xs.length = (11, (m.cut m.xs.length).2) ∧ Arms n (i + 1) (m.cut m.xs.length).2 := by
  obtain ⟨h1, h2, ⟨_, h3, h4⟩ | ⟨h3, h4⟩⟩ := h
  · have e : m.cut m.xs.length = (11, { m with down := true }) := by
      unfold M.cut M.spend
      rw [if_neg (by simp [h4]), if_neg (by omega), if_pos (by omega), if_pos (by omega)]
    rw [e]
    exact ⟨rfl, h1, by simp only; omega, Or.inr ⟨by omega, rfl⟩⟩
  · have e : m.cut m.xs.length = (11, m) := by
      unfold M.cut
      rw [if_pos h4]
    rw [e]
    exact ⟨rfl, h1, by simp only; omega, Or.inr ⟨by omega, h4⟩⟩
theorem arms_down_yes {n : Int} {i : Nat} {m : M} (h : Arms n (i + 1) m) (hi : (i : Int) < n) : m.down = false := by
  obtain ⟨h1, h2, ⟨_, h3, h4⟩ | ⟨h3, h4⟩⟩ := h
  · exact h4
  · omega
theorem arms_down_no {n : Int} {i : Nat} {m : M} (h : Arms n (i + 1) m) (hi : ¬ (i : Int) < n) : m.down = true := by
  obtain ⟨h1, h2, ⟨_, h3, h4⟩ | ⟨h3, h4⟩⟩ := h
  · omega
  · exact h4

set_option maxHeartbeats 1600000 in
/-- The law's walk. -/
theorem main (n : Int) (a1 : Option Addr) (len cap : Nat) (z : List Int) (w : World) (hlo : -9223372036854775808 ≤ n) (hhi : n ≤ 9223372036854775807) (hlen : len ≤ maxLen)
    (hc : ∀ i, i < len → ∃ b off, a1 = some ⟨b, off, none⟩ ∧ w.cell? ⟨b, off + i, none⟩ = some (.int .i64 (z.getD i 0)) ∧ (-9223372036854775808 ≤ z.getD i 0 ∧ z.getD i 0 ≤ 9223372036854775807)) :
    Calls Try.prog 5 #[.int .i64 n, .slice a1 len cap] w (Yes w) := by
  have A := Lib.hid (anchor_any w)
  have HC := Lib.hid hc
  clear hc
  unfold maxLen at hlen
  by_cases t0 : n < 0
  · have t0' : decide (n < 0) = true := by simpa using t0
    go_enter Try.func5, Try.ntmps5
    go_wp2_with fail
    refine A.out.mono ?_
    rintro e w1 ⟨rfl, hk⟩
    go_wp2_with fail
    go_ret
    exact ⟨rfl, hk⟩
  have t0' : decide (n < 0) = false := by simpa using t0
  by_cases t1 : 100 < len
  · have t1' : decide ((100 : Int) < len) = true := by simp; omega
    go_enter Try.func5, Try.ntmps5
    go_wp2_with fail
    refine A.out.mono ?_
    rintro e w1 ⟨rfl, hk⟩
    go_wp2_with fail
    go_ret
    exact ⟨rfl, hk⟩
  have t1' : decide ((100 : Int) < len) = false := by simp; omega
  clear hlo
  go_enter Try.func5, Try.ntmps5
  go_wp2_with fail
  refine A.out.mono ?_
  rintro e w1 ⟨rfl, hk⟩
  have N := Lib.hid (new_st hk 1000 (by omega) (by omega))
  clear hk
  go_wp2_with fail
  refine N.out.mono ?_
  rintro e w2 ⟨rfl, h2⟩
  have C := Lib.hid (arm_st h2 n hhi)
  clear h2
  go_wp2_with fail
  refine C.out.mono ?_
  rintro e w3 ⟨rfl, h3⟩
  have H3 := Lib.hid h3
  clear h3
  go_wp2_with fail
  go_loopw [28] (fun cnt wr => ∃ i : Nat, i ≤ len ∧ cnt = .int .i64 i ∧ ∃ m, Arms n i m ∧ St w w1.heap.size m wr) (fun cnt _ => len - (intOf cnt).toNat)
  case atStart => exact ⟨0, Nat.zero_le _, rfl, _, ⟨rfl, Nat.zero_le _, Or.inl ⟨by omega, by simp only [M.arm]; omega, rfl⟩⟩, H3.out⟩
  case round =>
    obtain ⟨i, hi, rfl, m, hm, h⟩ := hrel
    by_cases hlt : i < len
    · obtain ⟨b, off, rfl, hcell, hz1, hz2⟩ := HC.out i hlt
      have c1 : wr.cell? ⟨b, off + i, none⟩ = some (.int .i64 (z.getD i 0)) := by
        rw [← hcell]
        exact World.cell?_of_block (w := w) (h.keeps.block _ (World.block_lt_of_cell? w _ hcell) (fun h => h))
      generalize z.getD i 0 = c at *
      clear hcell
      by_cases hin : (i : Int) < n
      · by_cases k0 : (c.tmod 3 == 0) = true
        · skip
          have C := append_st (h.alloc _) (Src.lit wr [1] (by simp) (0, 0)) (c := 1) ⟨by decide, by unfold maxLen; omega, by intro h; cases h⟩
          obtain ⟨e1, e2⟩ := arms_app_yes hm hin (by omega)
          rw [e1] at C
          have C := Lib.hid C
          clear h
          go_wp2_with fail
          refine C.out.mono ?_
          rintro e wr2 ⟨rfl, h2⟩
          have C2 := down_st h2
          rw [arms_down_yes e2 (by omega)] at C2
          have C2 := Lib.hid C2
          have X := Lib.hid (And.intro e2 h2)
          clear h2 e1 e2
          go_wp2_with fail
          refine C2.out.mono ?_
          rintro e wr3 ⟨rfl, rfl⟩
          go_wp2_with fail
          go_roundw
          case rel => exact ⟨i + 1, by omega, by go_num, _, X.out.1, X.out.2⟩
          case measure => simp [intOf]; omega
        · have k0' : (c.tmod 3 == 0) = false := by simpa using k0
          clear k0
          by_cases k1 : (c.tmod 3 == 1) = true
          · skip
            have C := sync_st h
            obtain ⟨e1, e2⟩ := arms_syn_yes hm hin (by omega)
            rw [e1] at C
            have C := Lib.hid C
            clear h
            go_wp2_with fail
            refine C.out.mono ?_
            rintro e wr2 ⟨rfl, h2⟩
            have C2 := down_st h2
            rw [arms_down_yes e2 (by omega)] at C2
            have C2 := Lib.hid C2
            have X := Lib.hid (And.intro e2 h2)
            clear h2 e1 e2
            go_wp2_with fail
            refine C2.out.mono ?_
            rintro e wr3 ⟨rfl, rfl⟩
            go_wp2_with fail
            go_roundw
            case rel => exact ⟨i + 1, by omega, by go_num, _, X.out.1, X.out.2⟩
            case measure => simp [intOf]; omega
          · have k1' : (c.tmod 3 == 1) = false := by simpa using k1
            clear k1
            have C0 := Lib.hid (size_st h)
            have C := cut_st h m.xs.length
            obtain ⟨e1, e2⟩ := arms_cut_yes hm hin (by omega)
            rw [e1] at C
            have C := Lib.hid C
            clear h
            go_wp2_with fail
            refine C0.out.mono ?_
            rintro e wr' ⟨rfl, rfl⟩
            go_wp2_with fail
            refine C.out.mono ?_
            rintro e wr2 ⟨rfl, h2⟩
            have C2 := down_st h2
            rw [arms_down_yes e2 (by omega)] at C2
            have C2 := Lib.hid C2
            have X := Lib.hid (And.intro e2 h2)
            clear h2 e1 e2
            go_wp2_with fail
            refine C2.out.mono ?_
            rintro e wr3 ⟨rfl, rfl⟩
            go_wp2_with fail
            go_roundw
            case rel => exact ⟨i + 1, by omega, by go_num, _, X.out.1, X.out.2⟩
            case measure => simp [intOf]; omega
      · by_cases k0 : (c.tmod 3 == 0) = true
        · skip
          have C := append_st (h.alloc _) (Src.lit wr [1] (by simp) (0, 0)) (c := 1) ⟨by decide, by unfold maxLen; omega, by intro h; cases h⟩
          obtain ⟨e1, e2⟩ := arms_app_no hm hin (by omega)
          rw [e1] at C
          have C := Lib.hid C
          clear h
          go_wp2_with fail
          refine C.out.mono ?_
          rintro e wr2 ⟨rfl, h2⟩
          have C2 := down_st h2
          rw [arms_down_no e2 (by omega)] at C2
          have C2 := Lib.hid C2
          have X := Lib.hid (And.intro e2 h2)
          clear h2 e1 e2
          go_wp2_with fail
          refine C2.out.mono ?_
          rintro e wr3 ⟨rfl, rfl⟩
          go_wp2_with fail
          go_roundw
          case rel => exact ⟨i + 1, by omega, by go_num, _, X.out.1, X.out.2⟩
          case measure => simp [intOf]; omega
        · have k0' : (c.tmod 3 == 0) = false := by simpa using k0
          clear k0
          by_cases k1 : (c.tmod 3 == 1) = true
          · skip
            have C := sync_st h
            obtain ⟨e1, e2⟩ := arms_syn_no hm hin (by omega)
            rw [e1] at C
            have C := Lib.hid C
            clear h
            go_wp2_with fail
            refine C.out.mono ?_
            rintro e wr2 ⟨rfl, h2⟩
            have C2 := down_st h2
            rw [arms_down_no e2 (by omega)] at C2
            have C2 := Lib.hid C2
            have X := Lib.hid (And.intro e2 h2)
            clear h2 e1 e2
            go_wp2_with fail
            refine C2.out.mono ?_
            rintro e wr3 ⟨rfl, rfl⟩
            go_wp2_with fail
            go_roundw
            case rel => exact ⟨i + 1, by omega, by go_num, _, X.out.1, X.out.2⟩
            case measure => simp [intOf]; omega
          · have k1' : (c.tmod 3 == 1) = false := by simpa using k1
            clear k1
            have C0 := Lib.hid (size_st h)
            have C := cut_st h m.xs.length
            obtain ⟨e1, e2⟩ := arms_cut_no hm hin (by omega)
            rw [e1] at C
            have C := Lib.hid C
            clear h
            go_wp2_with fail
            refine C0.out.mono ?_
            rintro e wr' ⟨rfl, rfl⟩
            go_wp2_with fail
            refine C.out.mono ?_
            rintro e wr2 ⟨rfl, h2⟩
            have C2 := down_st h2
            rw [arms_down_no e2 (by omega)] at C2
            have C2 := Lib.hid C2
            have X := Lib.hid (And.intro e2 h2)
            clear h2 e1 e2
            go_wp2_with fail
            refine C2.out.mono ?_
            rintro e wr3 ⟨rfl, rfl⟩
            go_wp2_with fail
            go_roundw
            case rel => exact ⟨i + 1, by omega, by go_num, _, X.out.1, X.out.2⟩
            case measure => simp [intOf]; omega
    · obtain rfl : i = len := by omega
      by_cases hin : n < (i : Int)
      · have hd : m.down = true := by
          obtain ⟨h1, h2, ⟨_, h3, h4⟩ | ⟨h3, h4⟩⟩ := hm
          · omega
          · exact h4
        have CR := read_down_st h hd 0 0
        have CR := Lib.hid CR
        clear hd
        have H := Lib.hid h
        clear h
        go_wp2_with fail
        refine CR.out.mono ?_
        rintro e wr' ⟨rfl, rfl⟩
        have h := H.out
        have CC := crash_st h 1000 (a := none) (n := 0) (c := 0) (gs := []) ⟨rfl, by simp, Or.inl ⟨rfl, rfl⟩⟩ ⟨Nat.le_refl _, Nat.zero_le _, fun _ => rfl⟩ (by intro _ ad e; cases e)
        rw [crash_loose] at CC
        have CC := Lib.hid CC
        clear h
        go_wp2_with fail
        refine CC.out.mono ?_
        rintro e v1 ⟨rfl, g1⟩
        have D1 := Lib.hid (down_st g1)
        have D2 := append_st g1 (a := none) (n := 0) (c := 0) (ys := []) ⟨rfl, by simp, Or.inl ⟨rfl, rfl⟩⟩ ⟨Nat.le_refl _, Nat.zero_le _, fun _ => rfl⟩
        rw [append_loose _ _ _ _ (by have h0 := g1.ok.len; simp only [loose] at h0; simp only [List.length_nil]; omega)] at D2
        have D2 := Lib.hid D2
        clear g1
        go_wp2_with fail
        refine D1.out.mono ?_
        rintro e v1' ⟨rfl, rfl⟩
        have kd : ∀ a b c, (loose a b c).down = false := fun _ _ _ => rfl
        go_wp2_with fail
        refine D2.out.mono ?_
        rintro e v2 ⟨rfl, g2⟩
        have D3 := sync_st g2
        rw [sync_loose] at D3
        have D3 := Lib.hid D3
        clear g2
        go_wp2_with fail
        refine D3.out.mono ?_
        rintro e v3 ⟨rfl, g3⟩
        have D4 := Lib.hid (safe_st g3)
        have D5 := Lib.hid (size_st g3)
        have K := Lib.hid g3.keeps
        clear g3
        go_wp2_with fail
        refine D4.out.mono ?_
        rintro e v3' ⟨rfl, rfl⟩
        go_wp2_with fail
        refine D5.out.mono ?_
        rintro e v3'' ⟨rfl, rfl⟩
        have ks : ∀ a b c, (loose a b c).safe = c := fun _ _ _ => rfl
        have kx : ∀ a b c, (loose a b c).xs = b := fun _ _ _ => rfl
        go_wp2_with fail
        go_ret
        exact ⟨rfl, K.out⟩
      · skip
        have CC := crash_st h 1000 (a := none) (n := 0) (c := 0) (gs := []) ⟨rfl, by simp, Or.inl ⟨rfl, rfl⟩⟩ ⟨Nat.le_refl _, Nat.zero_le _, fun _ => rfl⟩ (by intro _ ad e; cases e)
        rw [crash_loose] at CC
        have CC := Lib.hid CC
        clear h
        go_wp2_with fail
        refine CC.out.mono ?_
        rintro e v1 ⟨rfl, g1⟩
        have D1 := Lib.hid (down_st g1)
        have D2 := append_st g1 (a := none) (n := 0) (c := 0) (ys := []) ⟨rfl, by simp, Or.inl ⟨rfl, rfl⟩⟩ ⟨Nat.le_refl _, Nat.zero_le _, fun _ => rfl⟩
        rw [append_loose _ _ _ _ (by have h0 := g1.ok.len; simp only [loose] at h0; simp only [List.length_nil]; omega)] at D2
        have D2 := Lib.hid D2
        clear g1
        go_wp2_with fail
        refine D1.out.mono ?_
        rintro e v1' ⟨rfl, rfl⟩
        have kd : ∀ a b c, (loose a b c).down = false := fun _ _ _ => rfl
        go_wp2_with fail
        refine D2.out.mono ?_
        rintro e v2 ⟨rfl, g2⟩
        have D3 := sync_st g2
        rw [sync_loose] at D3
        have D3 := Lib.hid D3
        clear g2
        go_wp2_with fail
        refine D3.out.mono ?_
        rintro e v3 ⟨rfl, g3⟩
        have D4 := Lib.hid (safe_st g3)
        have D5 := Lib.hid (size_st g3)
        have K := Lib.hid g3.keeps
        clear g3
        go_wp2_with fail
        refine D4.out.mono ?_
        rintro e v3' ⟨rfl, rfl⟩
        go_wp2_with fail
        refine D5.out.mono ?_
        rintro e v3'' ⟨rfl, rfl⟩
        have ks : ∀ a b c, (loose a b c).safe = c := fun _ _ _ => rfl
        have kx : ∀ a b c, (loose a b c).xs = b := fun _ _ _ => rfl
        go_wp2_with fail
        go_ret
        exact ⟨rfl, K.out⟩

/-! ### STEP 1: THE WALK: the Go text returns true, AND WRITES NOTHING THAT WAS THERE: 'Below w.heap.size w w'' (Derived/Below.lean: '.refl', '.alloc', '.drew', '.setCell' at a new block, '.trans'). Open each 'IsRow' by 'rcases' AHEAD of 'go_enter'; part every test ahead of the walk. -/
theorem walk (a0 : Int) (a1 : Option Addr) (len1 cap1 : Nat) (z1 : List Int) (w : World) (w0 : (Lit.int .i64 a0).wf = true) (w1 : IsRow .i64 w a1 len1 cap1 z1) :
    Calls Try.prog 5 #[.int .i64 a0, .slice a1 len1 cap1] w fun e w' => e = .returned (.bool true) ∧ Below w.heap.size w w' := by
  have hz : len1 ≤ maxLen := by
    rcases w1 with ⟨_, rfl, _⟩ | ⟨x, _, h1, h2, _⟩
    · exact Nat.zero_le _
    · exact Nat.le_trans h1 h2
  have hb := bounds_i64 w0
  refine (main a0 a1 len1 cap1 z1 w hb.1 hb.2 hz ?_).mono ?_
  · intro i hi
    rcases w1 with ⟨_, rfl, _⟩ | ⟨x, rfl, h1, h2, h3, h4, h5⟩
    · omega
    · obtain ⟨b, off, spot⟩ := x
      have hc := h4 0 (by omega)
      have hs : spot = none := by simpa [Addr.add] using World.cell?_spot hc
      subst hs
      refine ⟨b, off, rfl, ?_⟩
      have hci := h4 i (by omega)
      have e : ((⟨b, off, none⟩ : Addr).add i) = ⟨b, off + i, none⟩ := by
        unfold Addr.add
        split
        · rename_i h; subst h; rfl
        · rfl
      rw [e] at hci
      exact ⟨hci, bounds_i64 (h5 _ (by rw [List.getD_eq_getElem?_getD, List.getElem?_eq_getElem (by omega)]; exact List.getElem_mem _))⟩
  · rintro e w' ⟨he, hk⟩
    exact ⟨he, hk.below (Nat.le_refl _) (fun _ _ h => h)⟩

/-! ### THE ROW's STEP: WRITTEN OUT: LEAVE IT -/
set_option maxRecDepth 100000 in
theorem lifted (os : Os) (started : os.Started) (H : Type) (enc : TypeId × Value → H) :
    ReturnsInHanded {} Try.checked os 5 .any (Rows.reelArmsSpec.pre6 enc Try.prog Try.f5 Rows.reelArmsRow.domain false) (Rows.reelArmsSpec.post enc Try.prog Try.f5 false true false false) := by
  refine returnsInHanded_of_change (C := Try.checked) own started (by kernel_rfl) Try.func5
    (ChangeSpec.witness6 (enc := enc) (C := Try.checked) false ⟨#[], #[.int .i64 0, .slice none 0 0], []⟩ 8 (by kernel_rfl) (by kernel_rfl) (by kernel_rfl) (by kernel_rfl)) ?_
  intro W base args ds gs before hval0 hW hcnd _
  have hval : ∀ (j : Nat) t v, Try.f5.params[j]? = some t → args[j]? = some v → Value.okWide Try.prog W .any base t v := hval0
  have hW' := hW
  obtain ⟨p, q, hA0, hV, rfl, hfz, hnd⟩ := hW
  have hA : DataW.TrodAll enc Try.prog W 0 (fun _ => true) true Try.f5.params.toList args.toList ds p := hA0
  rw [Try.params5] at hA hval
  obtain ⟨v0, vs0, d0, ds0, p0, q0, hargs, rfl, rfl, h0, r0⟩ := trodAll_cons hA
  obtain ⟨v1, vs1, d1, ds1, p1, q1, rfl, rfl, rfl, h1, r1⟩ := trodAll_cons r0
  obtain ⟨rfl, rfl, rfl⟩ := trodAll_nil r1
  obtain rfl : args = #[v0, v1] := by cases args; simp_all
  obtain ⟨rfl, rfl⟩ := trodVars_none hV
  obtain ⟨a0, rfl, rfl, rfl, w0⟩ := open_int Try.underlying3 (hval 0 3 v0 rfl rfl) h0
  obtain ⟨a1, len1, cap1, rfl⟩ := okWide_slice Try.underlying44 (hval 1 44 v1 rfl rfl)
  have k1 := h1
  have lt1 : ∀ x ∈ p1, x.block < W.heap.size := by obtain ⟨m, hm⟩ := k1; exact DataW.trod_lt m _ _ _ hm
  obtain ⟨z1, w1⟩ : ∃ zs, IsRow .i64 W a1 len1 cap1 zs := by
    obtain ⟨fuel, hf⟩ := h1
    rcases open_ints Try.underlying44 Try.underlying3 (by kernel_rfl) hf with ⟨hcs, _⟩ | ⟨x, l, c, zs, hcs, _, hl, hm, hz, _, hcell, hwz⟩
    · simp [Value.cells] at hcs
      obtain ⟨rfl, rfl, rfl⟩ := hcs
      exact ⟨[], .inl ⟨rfl, rfl, rfl, rfl⟩⟩
    · simp [Value.cells] at hcs
      obtain ⟨rfl, rfl, rfl⟩ := hcs
      exact ⟨zs, .inr ⟨_, rfl, hl, hm, by simpa using hz, hcell, hwz⟩⟩
  clear hA0 hval0
  refine (walk a0 a1 len1 cap1 z1 W w0 w1).mono fun e W' ⟨he, bel⟩ => ?_
  subst he
  exact ⟨_, rfl, _, _, _, [], _, [], hW', trodAll_mk1 (shut_bool Try.underlying4 _), (trodAll_cons_mk (shut_int Try.underlying3 w0) (trodAll_cons_mk (Below.trod laidOut (by kernel_rfl) (of_decide_eq_true (by kernel_rfl)) k1 bel lt1) trodAll_mk0)), rfl, bel.frame _, fun h => by cases h⟩

theorem over : Rows.reelArmsRow.holds Try.pinned (OpenSpec.ofChange Rows.reelArmsSpec) :=
  OpenClaim.holds_of_wide 5 Try.f5 rfl rfl rfl rfl rfl rfl rfl ⟨rfl, rfl, rfl, rfl, rfl⟩ rfl rfl rfl rfl rfl (by kernel_rfl) Try.func5 (by kernel_rfl)
    (of_decide_eq_true (by kernel_rfl)) (by unfold Func.isWrapper; first | (rw [if_pos (by decide +kernel)]; kernel_rfl) | (rw [if_neg (by decide +kernel)]; exact ⟨rfl, rfl⟩))
    (fun os started H enc _ => lifted os started H enc)

/-- ████ THE STATEMENT ████ -/
theorem proved : Rows.ReelArmsSaid := over
#print axioms proved
end Go.Proofs.Ytccfjpjhkaicgaa.reelArms
