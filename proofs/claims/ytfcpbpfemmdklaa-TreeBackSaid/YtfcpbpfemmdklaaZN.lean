/- Equality of rows (44, 45). (printed by genZN.py) -/
import Derived.Test.YtfcpbpfemmdklaaZH
namespace Go.Proofs.Ytfcpbpfemmdklaa
open Go.RowKit Go.Lib
set_option linter.unusedSimpArgs false
set_option linter.unusedVariables false

theorem equal45_nil (a a' : Option Addr) (c c' : Nat) (w : World) : Calls Try.prog 45 #[.slice a 0 c, .slice a' 0 c'] w fun e w' => e = .returned (.bool true) ∧ Keeps none' w w' := by
  go_enter Try.func45, Try.ntmps45
  go_wp2_with fail
  go_loopw [13] (fun s13 wr => s13 = .int .i64 0 ∧ Keeps none' w wr) (fun _ _ => 0)
  case atStart => exact ⟨rfl, Keeps.refl _ _⟩
  case round =>
    obtain ⟨rfl, hk⟩ := hrel
    have K := Lib.hid hk
    clear hk
    go_wp2_with fail
    go_ret
    exact ⟨rfl, K.out⟩
theorem equal45_no (a a' : Option Addr) (n n' c c' : Nat) (w : World) (hn : n ≠ n') : Calls Try.prog 45 #[.slice a n c, .slice a' n' c'] w fun e w' => e = .returned (.bool false) ∧ Keeps none' w w' := by
  have d1 : ((n : Int) == (n' : Int)) = false := by simp; omega
  have d2 : ((n : Int) != (n' : Int)) = true := by simp; omega
  have d3 : decide ((n : Int) = (n' : Int)) = false := by simp; omega
  have d4 : decide (¬ (n : Int) = (n' : Int)) = true := by simp; omega
  go_enter Try.func45, Try.ntmps45
  go_wp2_with fail
  go_ret
  exact ⟨rfl, Keeps.refl _ _⟩
set_option maxHeartbeats 1600000 in
theorem equal45_some (b o n c b' o' c' : Nat) (xs ys : List Int) (w : World) (H : ReadR w 3 1 ⟨some ⟨b, o, none⟩, n, c⟩ (ints xs)) (G : ReadR w 3 1 ⟨some ⟨b', o', none⟩, n, c'⟩ (ints ys)) :
    Calls Try.prog 45 #[.slice (some ⟨b, o, none⟩) n c, .slice (some ⟨b', o', none⟩) n c'] w fun e w' => e = .returned (.bool (decide (xs = ys))) ∧ Keeps none' w w' := by
  have HD := Lib.hid H
  have GD := Lib.hid G
  have hl : xs.length = n := by
    have := H.1.len
    simpa [ints] using this
  have gl : ys.length = n := by
    have := G.1.len
    simpa [ints] using this
  have hn : n ≤ 536870912 := H.2
  have HL := Lib.hid (And.intro hl (And.intro gl hn))
  clear H G hl gl hn
  go_enter Try.func45, Try.ntmps45
  go_wp2_with fail
  go_loopw [13] (fun s13 wr => ∃ i : Nat, i ≤ n ∧ s13 = .int .i64 i ∧ xs.take i = ys.take i ∧ Keeps none' w wr) (fun s13 _ => n - (intOf s13).toNat)
  case atStart => exact ⟨0, Nat.zero_le _, rfl, by simp, Keeps.refl _ _⟩
  case round =>
    obtain ⟨i, hi, rfl, ha, hk⟩ := hrel
    have HA := Lib.hid ha
    have K := Lib.hid hk
    clear ha hk
    by_cases hlt : i < n
    · have tk : decide ((i : Int) < (n : Int)) = true := by simp; omega
      have tk2 : decide (i < n) = true := by simp; omega
      obtain ⟨v, hv⟩ : ∃ v, xs[i]? = some v := ⟨_, List.getElem?_eq_getElem (by have := HL.out.1; omega)⟩
      obtain ⟨u, hu⟩ : ∃ u, ys[i]? = some u := ⟨_, List.getElem?_eq_getElem (by have := HL.out.2.1; omega)⟩
      have ce : wr.cell? ⟨b, o + i, none⟩ = some (.int .i64 v) := K.out.cell ((HD.out.1.at' _ rfl).2.2 i _ (by unfold ints; rw [List.getElem?_map, hv]; rfl))
      have cf : wr.cell? ⟨b', o' + i, none⟩ = some (.int .i64 u) := K.out.cell ((GD.out.1.at' _ rfl).2.2 i _ (by unfold ints; rw [List.getElem?_map, hu]; rfl))
      have HV := Lib.hid hv
      have HU := Lib.hid hu
      have TK := Lib.hid (show xs.take (i + 1) = xs.take i ++ [v] from take_more hv)
      have TU := Lib.hid (show ys.take (i + 1) = ys.take i ++ [u] from take_more hu)
      clear hv hu
      have i0 : 0 ≤ (i : Int) := Int.natCast_nonneg i
      have i1 : (i : Int) < (n : Int) := by omega
      by_cases hp : v = u
      · have d1 : (v == u) = true := by simp [hp]
        have d2 : (v != u) = false := by simp [hp]
        have d3 : decide (v = u) = true := by simp [hp]
        have d4 : decide (¬ v = u) = false := by simp [hp]
        have HP := Lib.hid hp
        clear hp
        have hb : (i : Int) < 536870912 := by have := HL.out.2; omega
        have iw : wrap64 ((i : Int) + 1) = (i : Int) + 1 := wrap64_id _ (by omega) (by omega)
        go_wp2_with fail
        go_quiet (fail)
        go_wp2_with fail
        go_roundw
        case rel => exact ⟨i + 1, Nat.succ_le_of_lt hlt, by go_num, by rw [TK.out, TU.out, HA.out, HP.out], K.out.drewN _⟩
        case measure => exact meas_lt hlt rfl
      · have d1 : (v == u) = false := by simp [hp]
        have d2 : (v != u) = true := by simp [hp]
        have d3 : decide (v = u) = false := by simp [hp]
        have d4 : decide (¬ v = u) = true := by simp [hp]
        have NE := Lib.hid (show decide (xs = ys) = false from by
          rw [decide_eq_false_iff_not]
          intro e
          have h1 := HV.out
          rw [e, HU.out] at h1
          exact hp (Option.some.inj h1).symm)
        clear hp
        go_wp2_with fail
        go_quiet (fail)
        go_wp2_with fail
        go_ret
        exact ⟨by rw [NE.out]; rfl, K.out.drewN _⟩
    · obtain rfl : i = n := by omega
      have tk : decide ((i : Int) < (i : Int)) = false := by simp
      have FA := Lib.hid (show decide (xs = ys) = true from by
        rw [decide_eq_true_iff]
        have := HA.out
        rw [List.take_of_length_le (by have := HL.out.1; omega), List.take_of_length_le (by have := HL.out.2.1; omega)] at this
        exact this)
      go_wp2_with fail
      go_ret
      exact ⟨by rw [FA.out]; rfl, K.out⟩
/-- Are rows alike? -/
theorem equal45 (h g : Hd) (xs ys : List Int) (w : World) (H : ReadR w 3 1 h (ints xs)) (G : ReadR w 3 1 g (ints ys)) :
    Calls Try.prog 45 #[.slice h.a h.n h.c, .slice g.a g.n g.c] w fun e w' => e = .returned (.bool (decide (xs = ys))) ∧ Keeps none' w w' := by
  obtain ⟨a, n, c⟩ := h
  obtain ⟨a', n', c'⟩ := g
  have hl : xs.length = n := by
    have := H.1.len
    simpa [ints] using this
  have gl : ys.length = n' := by
    have := G.1.len
    simpa [ints] using this
  by_cases hn : n = n'
  · subst hn
    by_cases h0 : n = 0
    · subst h0
      obtain rfl := List.eq_nil_of_length_eq_zero hl
      obtain rfl := List.eq_nil_of_length_eq_zero gl
      exact equal45_nil a a' c c' w
    · cases a with
      | none => exact absurd (H.1.abs rfl).1 h0
      | some x =>
        cases a' with
        | none => exact absurd (G.1.abs rfl).1 h0
        | some x' =>
          obtain ⟨h1, -, -⟩ := H.1.at' x rfl
          obtain ⟨g1, -, -⟩ := G.1.at' x' rfl
          obtain ⟨b, o, sp⟩ := x
          obtain ⟨b', o', sp'⟩ := x'
          simp only at h1 g1
          subst h1
          subst g1
          exact equal45_some b o n c b' o' c' xs ys w H G
  · have e : decide (xs = ys) = false := by
      rw [decide_eq_false_iff_not]
      intro e
      exact hn (by rw [← hl, ← gl, e])
    rw [e]
    exact equal45_no a a' n n' c c' w hn
theorem equal44_nil (a a' : Option Addr) (c c' : Nat) (w : World) : Calls Try.prog 44 #[.slice a 0 c, .slice a' 0 c'] w fun e w' => e = .returned (.bool true) ∧ Keeps none' w w' := by
  go_enter Try.func44, Try.ntmps44
  go_wp2_with fail
  go_loopw [13] (fun s13 wr => s13 = .int .i64 0 ∧ Keeps none' w wr) (fun _ _ => 0)
  case atStart => exact ⟨rfl, Keeps.refl _ _⟩
  case round =>
    obtain ⟨rfl, hk⟩ := hrel
    have K := Lib.hid hk
    clear hk
    go_wp2_with fail
    go_ret
    exact ⟨rfl, K.out⟩
theorem equal44_no (a a' : Option Addr) (n n' c c' : Nat) (w : World) (hn : n ≠ n') : Calls Try.prog 44 #[.slice a n c, .slice a' n' c'] w fun e w' => e = .returned (.bool false) ∧ Keeps none' w w' := by
  have d1 : ((n : Int) == (n' : Int)) = false := by simp; omega
  have d2 : ((n : Int) != (n' : Int)) = true := by simp; omega
  have d3 : decide ((n : Int) = (n' : Int)) = false := by simp; omega
  have d4 : decide (¬ (n : Int) = (n' : Int)) = true := by simp; omega
  go_enter Try.func44, Try.ntmps44
  go_wp2_with fail
  go_ret
  exact ⟨rfl, Keeps.refl _ _⟩
set_option maxHeartbeats 1600000 in
theorem equal44_some (b o n c b' o' c' : Nat) (xs ys : List Int) (w : World) (H : ReadR w 5 1 ⟨some ⟨b, o, none⟩, n, c⟩ (bytes xs)) (G : ReadR w 5 1 ⟨some ⟨b', o', none⟩, n, c'⟩ (bytes ys)) :
    Calls Try.prog 44 #[.slice (some ⟨b, o, none⟩) n c, .slice (some ⟨b', o', none⟩) n c'] w fun e w' => e = .returned (.bool (decide (xs = ys))) ∧ Keeps none' w w' := by
  have HD := Lib.hid H
  have GD := Lib.hid G
  have hl : xs.length = n := by
    have := H.1.len
    simpa [bytes] using this
  have gl : ys.length = n := by
    have := G.1.len
    simpa [bytes] using this
  have hn : n ≤ 536870912 := H.2
  have HL := Lib.hid (And.intro hl (And.intro gl hn))
  clear H G hl gl hn
  go_enter Try.func44, Try.ntmps44
  go_wp2_with fail
  go_loopw [13] (fun s13 wr => ∃ i : Nat, i ≤ n ∧ s13 = .int .i64 i ∧ xs.take i = ys.take i ∧ Keeps none' w wr) (fun s13 _ => n - (intOf s13).toNat)
  case atStart => exact ⟨0, Nat.zero_le _, rfl, by simp, Keeps.refl _ _⟩
  case round =>
    obtain ⟨i, hi, rfl, ha, hk⟩ := hrel
    have HA := Lib.hid ha
    have K := Lib.hid hk
    clear ha hk
    by_cases hlt : i < n
    · have tk : decide ((i : Int) < (n : Int)) = true := by simp; omega
      have tk2 : decide (i < n) = true := by simp; omega
      obtain ⟨v, hv⟩ : ∃ v, xs[i]? = some v := ⟨_, List.getElem?_eq_getElem (by have := HL.out.1; omega)⟩
      obtain ⟨u, hu⟩ : ∃ u, ys[i]? = some u := ⟨_, List.getElem?_eq_getElem (by have := HL.out.2.1; omega)⟩
      have ce : wr.cell? ⟨b, o + i, none⟩ = some (.int .u8 v) := K.out.cell ((HD.out.1.at' _ rfl).2.2 i _ (by unfold bytes; rw [List.getElem?_map, hv]; rfl))
      have cf : wr.cell? ⟨b', o' + i, none⟩ = some (.int .u8 u) := K.out.cell ((GD.out.1.at' _ rfl).2.2 i _ (by unfold bytes; rw [List.getElem?_map, hu]; rfl))
      have HV := Lib.hid hv
      have HU := Lib.hid hu
      have TK := Lib.hid (show xs.take (i + 1) = xs.take i ++ [v] from take_more hv)
      have TU := Lib.hid (show ys.take (i + 1) = ys.take i ++ [u] from take_more hu)
      clear hv hu
      have i0 : 0 ≤ (i : Int) := Int.natCast_nonneg i
      have i1 : (i : Int) < (n : Int) := by omega
      by_cases hp : v = u
      · have d1 : (v == u) = true := by simp [hp]
        have d2 : (v != u) = false := by simp [hp]
        have d3 : decide (v = u) = true := by simp [hp]
        have d4 : decide (¬ v = u) = false := by simp [hp]
        have HP := Lib.hid hp
        clear hp
        have hb : (i : Int) < 536870912 := by have := HL.out.2; omega
        have iw : wrap64 ((i : Int) + 1) = (i : Int) + 1 := wrap64_id _ (by omega) (by omega)
        go_wp2_with fail
        go_quiet (fail)
        go_wp2_with fail
        go_roundw
        case rel => exact ⟨i + 1, Nat.succ_le_of_lt hlt, by go_num, by rw [TK.out, TU.out, HA.out, HP.out], K.out.drewN _⟩
        case measure => exact meas_lt hlt rfl
      · have d1 : (v == u) = false := by simp [hp]
        have d2 : (v != u) = true := by simp [hp]
        have d3 : decide (v = u) = false := by simp [hp]
        have d4 : decide (¬ v = u) = true := by simp [hp]
        have NE := Lib.hid (show decide (xs = ys) = false from by
          rw [decide_eq_false_iff_not]
          intro e
          have h1 := HV.out
          rw [e, HU.out] at h1
          exact hp (Option.some.inj h1).symm)
        clear hp
        go_wp2_with fail
        go_quiet (fail)
        go_wp2_with fail
        go_ret
        exact ⟨by rw [NE.out]; rfl, K.out.drewN _⟩
    · obtain rfl : i = n := by omega
      have tk : decide ((i : Int) < (i : Int)) = false := by simp
      have FA := Lib.hid (show decide (xs = ys) = true from by
        rw [decide_eq_true_iff]
        have := HA.out
        rw [List.take_of_length_le (by have := HL.out.1; omega), List.take_of_length_le (by have := HL.out.2.1; omega)] at this
        exact this)
      go_wp2_with fail
      go_ret
      exact ⟨by rw [FA.out]; rfl, K.out⟩
/-- Are rows alike? -/
theorem equal44 (h g : Hd) (xs ys : List Int) (w : World) (H : ReadR w 5 1 h (bytes xs)) (G : ReadR w 5 1 g (bytes ys)) :
    Calls Try.prog 44 #[.slice h.a h.n h.c, .slice g.a g.n g.c] w fun e w' => e = .returned (.bool (decide (xs = ys))) ∧ Keeps none' w w' := by
  obtain ⟨a, n, c⟩ := h
  obtain ⟨a', n', c'⟩ := g
  have hl : xs.length = n := by
    have := H.1.len
    simpa [bytes] using this
  have gl : ys.length = n' := by
    have := G.1.len
    simpa [bytes] using this
  by_cases hn : n = n'
  · subst hn
    by_cases h0 : n = 0
    · subst h0
      obtain rfl := List.eq_nil_of_length_eq_zero hl
      obtain rfl := List.eq_nil_of_length_eq_zero gl
      exact equal44_nil a a' c c' w
    · cases a with
      | none => exact absurd (H.1.abs rfl).1 h0
      | some x =>
        cases a' with
        | none => exact absurd (G.1.abs rfl).1 h0
        | some x' =>
          obtain ⟨h1, -, -⟩ := H.1.at' x rfl
          obtain ⟨g1, -, -⟩ := G.1.at' x' rfl
          obtain ⟨b, o, sp⟩ := x
          obtain ⟨b', o', sp'⟩ := x'
          simp only at h1 g1
          subst h1
          subst g1
          exact equal44_some b o n c b' o' c' xs ys w H G
  · have e : decide (xs = ys) = false := by
      rw [decide_eq_false_iff_not]
      intro e
      exact hn (by rw [← hl, ← gl, e])
    rw [e]
    exact equal44_no a a' n n' c c' w hn
end Go.Proofs.Ytfcpbpfemmdklaa
