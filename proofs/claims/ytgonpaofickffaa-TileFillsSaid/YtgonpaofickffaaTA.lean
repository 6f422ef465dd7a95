/- A table of tiles (a map from places to tiles), as it lies in memory, and what is done to it. -/
import Derived.Test.YtgonpaofickffaaProg
import Derived.WalkKit
import Derived.WalkLawsBesides
import Derived.OneCell
import Derived.Outline
import Derived.Maps.OwnSet
import Derived.Maps.RangeWalk
import Derived.DeepKeys4
import Derived.MapViews
import Derived.ChangeMaps
namespace Go.Proofs.Ytgonpaofickffaa
open Go.RowKit Go.Maps
set_option linter.unusedVariables false

theorem laidOut : laidOutB Try.prog = true := by kernel_rfl
theorem row70 : (70 : TypeId) < Try.prog.types.size := of_decide_eq_true (by kernel_rfl)
theorem wide70 : (match Try.prog.underlying 70 with | some (.array _ _) | some (.struct _) => true | _ => false) = true := by kernel_rfl
theorem law70 : Keyed Try.prog 70 := Keyed.of_law (deep_law_laid laidOut (m := 2) (by omega) row70 (by kernel_rfl) wide70)

/-- A place, as a value. -/
def keyV (i j : Nat) : Value := .agg #[.int .i64 (i : Int), .int .i64 (j : Int)]
/-- A place, as a key. -/
noncomputable def key (i j : Nat) : Lit := (keyOf Try.prog 70 (keyV i j)).getD (.bool true)
theorem keyOf_key (i j : Nat) (hi : i < 9223372036854775808) (hj : j < 9223372036854775808) : keyOf Try.prog 70 (keyV i j) = some (key i j) := by
  have hs : ∃ l, keyOf Try.prog 70 (keyV i j) = some l := by
    have h70 := Try.underlying70
    have h3 := Try.underlying3
    have hk : Try.prog.keyType 70 = true := by kernel_rfl
    have hc : Try.prog.cellsOf 70 = 2 := by kernel_rfl
    have hc3 : Try.prog.cellsOf 3 = 1 := by kernel_rfl
    have wi : (Lit.int .i64 (i : Int)).wf = true := WalkArith.wf_i64 (by omega)
    have wj : (Lit.int .i64 (j : Int)).wf = true := WalkArith.wf_i64 (by omega)
    have hl1 : ∀ (d : Nat) (x : Nat), (Lit.int .i64 (x : Int)).wf = true → Try.prog.keyLits (d + 1) 3 [.int .i64 (x : Int)] = some [.int .i64 (x : Int)] := by
      intro d x hx
      unfold Program.keyLits
      rw [h3]
      simp [hx]
    have hl : ∀ d : Nat, Try.prog.keyLits (d + 2) 70 [.int .i64 (i : Int), .int .i64 (j : Int)] = some [.int .i64 (i : Int), .int .i64 (j : Int)] := by
      intro d
      unfold Program.keyLits
      rw [h70]
      simp [hc, hc3, List.range_succ, hl1 d i wi, hl1 d j wj]
    have hsz : ∃ d, Try.prog.types.size + 1 = d + 2 := ⟨Try.prog.types.size - 1, by have h : (70 : Nat) < Try.prog.types.size := row70; omega⟩
    obtain ⟨d, hsz⟩ := hsz
    have hl := hl d
    generalize hll : ([.int .i64 (i : Int), .int .i64 (j : Int)] : List Lit) = l at hl
    refine ⟨.string (keyBytes l), ?_⟩
    have hf : (keyV i j).formed Try.prog 70 = true := by simp [keyV, Value.formed, h70, hc]
    unfold keyOf
    rw [h70]
    simp only [hk, hf, Bool.and_self, if_true]
    rw [hsz, show (keyV i j).cells.toList = [.int .i64 (i : Int), .int .i64 (j : Int)] from rfl, hl]
    rfl
  obtain ⟨l, hl⟩ := hs
  unfold key
  rw [hl]
  rfl
theorem key_inj {i j i' j' : Nat} (hi : i < 9223372036854775808) (hj : j < 9223372036854775808) (hi' : i' < 9223372036854775808) (hj' : j' < 9223372036854775808) (h : key i j = key i' j') : i = i' ∧ j = j' := by
  have h1 := keyOf_key i j hi hj
  have h2 := keyOf_key i' j' hi' hj'
  rw [h] at h1
  have := law70.inj h1 h2
  simp only [keyV, Value.agg.injEq, Array.mk.injEq, List.cons.injEq, Value.int.injEq, true_and, and_true] at this
  omega
theorem key_is (i j : Nat) (hi : i < 9223372036854775808) (hj : j < 9223372036854775808) : WideAt.IsKeyLit (key i j) := law70.key (keyOf_key i j hi hj)

/-- How an element reads. -/
def tileR (v : Value) : Option (DataW Unit × List MemPlace) :=
  match v with
  | .pointer none => some (.nil, [])
  | .pointer (some ⟨t, 0, none⟩) => some (.lit (.int .i64 (t : Int)), [])
  | _ => none
def tileD : Option Nat → DataW Unit
  | none => .nil
  | some t => .lit (.int .i64 (t : Int))
def tileV : Option Nat → Value
  | none => .pointer none
  | some t => .pointer (some ⟨t, 0, none⟩)
theorem tileR_V (o : Option Nat) : tileR (tileV o) = some (tileD o, []) := by cases o <;> rfl
theorem tileR_inv {v : Value} {y : DataW Unit × List MemPlace} (h : tileR v = some y) : ∃ o, v = tileV o ∧ y = (tileD o, []) := by
  unfold tileR at h
  split at h
  · cases h; exact ⟨none, rfl, rfl⟩
  · cases h; exact ⟨some _, rfl, rfl⟩
  · cases h
theorem tileD_inj {a b : Option Nat} (h : tileD a = tileD b) : a = b := by
  cases a <;> cases b <;> simp_all [tileD]
  omega

/-- A table set at one place. -/
def upd (T : Nat → Nat → Option Nat) (i j t : Nat) : Nat → Nat → Option Nat := fun i' j' => if i' = i ∧ j' = j then some t else T i' j'

/-- The map m of w is the table T, its places L. -/
structure Tab (w : World) (m : Nat) (T : Nat → Nat → Option Nat) (L : List (Nat × Nat)) : Prop where
  ex : ∃ D : DataW Unit, w.ownsMap Try.prog 70 tileR m L.length D ∧ Maps.size D = L.length ∧ (∀ i j, i < 4294967296 → j < 4294967296 → D.atKey (key i j) .nil = tileD (T i j)) ∧
    ∀ kl, Maps.has D kl = true → ∃ i j, i < 2048 ∧ j < 2048 ∧ kl = key i j ∧ T i j ≠ none
  ls : ∀ i j, (i, j) ∈ L ↔ T i j ≠ none
  rng : ∀ i j, T i j ≠ none → i < 2048 ∧ j < 2048
  nd : L.Nodup

theorem Tab.lt {w : World} {m : Nat} {T : Nat → Nat → Option Nat} {L : List (Nat × Nat)} (h : Tab w m T L) : m < w.heap.size := by
  obtain ⟨D, h1, _⟩ := h.ex
  exact h1.lt
theorem Tab.keep {w w' : World} {m : Nat} {T : Nat → Nat → Option Nat} {L : List (Nat × Nat)} (h : Tab w m T L) (hb : w'.heap[m]? = w.heap[m]?) : Tab w' m T L := by
  obtain ⟨⟨D, ⟨es, cl, h1, h2⟩, h3⟩, h4, h5, h6⟩ := h
  exact ⟨⟨D, ⟨es, cl, hb.trans h1, h2⟩, h3⟩, h4, h5, h6⟩
/-- It isn't cells. -/
theorem Tab.notCells {w : World} {m : Nat} {T : Nat → Nat → Option Nat} {L : List (Nat × Nat)} (h : Tab w m T L) {c : Array Value} {t : TypeId} {f : Nat × Nat} : w.heap[m]? ≠ some (.cells c t f) := by
  obtain ⟨⟨D, ⟨es, cl, h1, _⟩, _⟩, _⟩ := h
  rw [h1]
  intro e
  cases e
theorem Tab.empty (w : World) : Tab (w.alloc (.map #[] 0)) w.heap.size (fun _ _ => none) [] :=
  ⟨⟨.map [], World.ownsMap_made w _ _ _, rfl, fun _ _ _ _ => rfl, fun kl h => by cases h⟩, fun i j => by simp, fun i j h => absurd rfl h, List.nodup_nil⟩
theorem zero68 (w : World) : (zeroValue 68).run Try.prog w = .ok (tileV none) w := by kernel_rfl
theorem Tab.look {w : World} {m : Nat} {T : Nat → Nat → Option Nat} {L : List (Nat × Nat)} (h : Tab w m T L) (i j : Nat) (hi : i < 4294967296) (hj : j < 4294967296) :
    (Instr.lookup 61 (.map (some m)) (.agg #[.int .i64 (i : Int), .int .i64 (j : Int)]) false).run Try.prog w = .ok (tileV (T i j)) w := by
  obtain ⟨⟨D, h1, h2, h3, h4⟩, _⟩ := h
  obtain ⟨v, ps, hrun, hv⟩ := h1.lookup law70 Try.underlying61 (zero68 w) (zd := .nil) (zp := []) rfl (keyOf_key i j (by omega) (by omega))
  obtain ⟨o, rfl, e⟩ := tileR_inv hv
  have e1 := congrArg Prod.fst e
  rw [h3 i j hi hj] at e1
  rw [tileD_inj e1]
  exact hrun
theorem Tab.len {w : World} {m : Nat} {T : Nat → Nat → Option Nat} {L : List (Nat × Nat)} (h : Tab w m T L) (ty : TypeId) :
    (Builtin.len_ #[61] ty #[.map (some m)]).run Try.prog w = .ok (.int .i64 (L.length : Int)) w := by
  obtain ⟨⟨D, h1, h2, _⟩, _⟩ := h
  rw [h1.len Try.underlying61 ty, h2]
theorem Tab.set {w : World} {m : Nat} {T : Nat → Nat → Option Nat} {L : List (Nat × Nat)} (h : Tab w m T L) (hL : L.length < 16777216) (i j t : Nat) (hi : i < 2048) (hj : j < 2048) :
    ∃ w', (Instr.mapUpdate 61 (.map (some m)) (.agg #[.int .i64 (i : Int), .int .i64 (j : Int)]) (.pointer (some ⟨t, 0, none⟩))).run Try.prog w = .ok () w' ∧
      Tab w' m (upd T i j t) (if T i j = none then L ++ [(i, j)] else L) ∧ w.grownBy w' (some m) ∧ w'.heap.size = w.heap.size := by
  obtain ⟨⟨D, h1, h2, h3, h4⟩, h5, h6, h7⟩ := h
  have hk := keyOf_key i j (by omega) (by omega)
  have hkl := key_is i j (by omega) (by omega)
  obtain ⟨w', hrun, hown, hgr⟩ := h1.update law70 Try.underlying61 (by unfold maxLen; omega) hk (tileR_V (some t))
  have hne : ∀ i' j', i' < 4294967296 → j' < 4294967296 → ¬ (i' = i ∧ j' = j) → key i' j' ≠ key i j := fun i' j' hi' hj' hn e => hn (key_inj (by omega) (by omega) (by omega) (by omega) e)
  have hsz : Maps.size (D.put (key i j) (tileD (some t))) = (if T i j = none then L ++ [(i, j)] else L).length := by
    rw [size_put (h1.tidy law70), h2]
    by_cases hT : T i j = none
    · have : Maps.has D (key i j) = false := by
        cases hh : Maps.has D (key i j) with
        | false => rfl
        | true =>
          obtain ⟨i', j', a, b, e, n⟩ := h4 _ hh
          obtain ⟨rfl, rfl⟩ := key_inj (by omega) (by omega) (by omega) (by omega) e
          exact absurd hT n
      rw [this, if_pos hT]
      simp
    · have : Maps.has D (key i j) = true := by
        cases hh : Maps.has D (key i j) with
        | true => rfl
        | false =>
          have := Maps.atKey_of_not_has hh .nil
          rw [h3 i j (by omega) (by omega)] at this
          exact absurd (tileD_inj (b := none) this) hT
      rw [this, if_neg hT]
      simp
  refine ⟨w', hrun, ⟨⟨_, ?_, hsz, ?_, ?_⟩, ?_, ?_, ?_⟩, hgr, ?_⟩
  · obtain ⟨es, cl, hb, F, hn, hD⟩ := hown
    refine ⟨es, cl, hb, F, ?_, hD⟩
    have : Maps.size (D.put (key i j) (tileD (some t))) = es.size := by
      rw [hD]
      exact length_read es
    omega
  · intro i' j' hi' hj'
    unfold upd
    by_cases e : i' = i ∧ j' = j
    · obtain ⟨rfl, rfl⟩ := e
      rw [if_pos ⟨rfl, rfl⟩, Maps.atKey_put_same h1.isMap hkl]
    · rw [if_neg e, Maps.atKey_put_other (hne i' j' hi' hj' e), h3 i' j' hi' hj']
  · intro kl hh
    by_cases e : kl = key i j
    · exact ⟨i, j, hi, hj, e, by simp [upd]⟩
    · rw [Maps.has_put_other e] at hh
      obtain ⟨i', j', a, b, rfl, n⟩ := h4 _ hh
      refine ⟨i', j', a, b, rfl, ?_⟩
      unfold upd
      split
      · simp
      · exact n
  · intro i' j'
    unfold upd
    by_cases e : i' = i ∧ j' = j
    · obtain ⟨rfl, rfl⟩ := e
      rw [if_pos (show i' = i' ∧ j' = j' from ⟨rfl, rfl⟩)]
      by_cases hT : T i' j' = none
      · rw [if_pos hT]; simp
      · rw [if_neg hT]
        exact ⟨fun _ => by simp, fun _ => (h5 i' j').2 hT⟩
    · rw [if_neg e, ← h5 i' j']
      split
      · simp only [List.mem_append, List.mem_singleton, Prod.mk.injEq]
        exact ⟨fun h => h.resolve_right e, Or.inl⟩
      · exact Iff.rfl
  · intro i' j' hn
    unfold upd at hn
    by_cases e : i' = i ∧ j' = j
    · omega
    · rw [if_neg e] at hn
      exact h6 i' j' hn
  · split
    · rename_i hT
      rw [List.nodup_append]
      refine ⟨h7, by simp, fun a ha b hb e => ?_⟩
      rw [List.mem_singleton] at hb
      rw [e, hb] at ha
      exact (h5 i j).1 ha hT
    · exact h7
  · obtain ⟨es, cl, hb, F, hn, hD⟩ := h1
    obtain ⟨es', clock', hrun', _⟩ := Maps.fit_store (R' := tileR) law70 Try.underlying61 hb F (Nat.lt_of_le_of_lt hn (by unfold maxLen; omega)) (fun _ _ _ _ hz => hz) hk (tileR_V (some t))
    rw [show (Instr.mapUpdate 61 (.map (some m)) (keyV i j) (tileV (some t))).run Try.prog w = .ok () w' from hrun] at hrun'
    cases hrun'
    simp [ChangeMaps.setBlock]
theorem Tab.clear {w : World} {m : Nat} {T : Nat → Nat → Option Nat} {L : List (Nat × Nat)} (h : Tab w m T L) (ty : TypeId) :
    ∃ w', (Builtin.clear_ #[61] ty #[.map (some m)]).run Try.prog w = .ok (.tuple #[]) w' ∧ Tab w' m (fun _ _ => none) [] ∧ w.grownBy w' (some m) ∧ w'.heap.size = w.heap.size := by
  obtain ⟨⟨D, ⟨es, cl, hb, F, hn, hD⟩, _⟩, _⟩ := h
  refine ⟨ChangeMaps.setBlock w m (.map #[] cl), ?_, ⟨⟨.map [], ⟨#[], cl, ChangeMaps.heap_setBlock_same hb _, ⟨by simp, MapKept.stamped_empty cl, by simp⟩, Nat.le_refl _, rfl⟩, rfl, fun _ _ _ _ => rfl, fun kl h => by cases h⟩, fun i j => by simp, fun i j h => absurd rfl h, List.nodup_nil⟩,
    ⟨rfl, rfl, rfl, by simp [ChangeMaps.setBlock], fun i _ hi => ChangeMaps.heap_setBlock_other hb _ (fun e => hi (by rw [e]))⟩, by simp [ChangeMaps.setBlock]⟩
  simp [Builtin.clear_, run_underlying Try.underlying61, MapKept.run_getObj_map hb, MapKept.run_setObj_map _ hb, Result.andThen, ChangeMaps.setBlock]
end Go.Proofs.Ytgonpaofickffaa
