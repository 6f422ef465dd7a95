/- JournalKeeps: its steps as they came in; the model of a step, plain. -/
import Derived.Test.YthddjfaeacmlhaaDoorJR
import Derived.Test.YthddjfaeacmlhaaDoorJM
import Derived.Deep.Slices
namespace Go.Proofs.YthddjfaeacmlhaaDoor
open Go.ChangeShapes Go.WideShapes Go.ChangeAt Go.RowKit Jr
set_option linter.unusedVariables false

/-- A step that came in. -/
def StepIn (w : World) (b o : Nat) (kind keep : Int) (da : Option Addr) (dn dc : Nat) (ys : List Nat) : Prop :=
  w.cell? ⟨b, o, none⟩ = some (.int .i64 kind) ∧ w.cell? ⟨b, o + 1, none⟩ = some (.int .i64 keep) ∧ w.cell? ⟨b, o + 2, none⟩ = some (.slice da dn dc) ∧ Arg w da dn dc ys ∧ dc ≤ maxLen
structure Op1 where
  k : Nat
def Ops (w : World) (a : Option Addr) (n c : Nat) (_ : List Op1) : Prop :=
  n ≤ c ∧ ∀ i, i < n → ∃ b off kind keep da dn dc ys, a = some ⟨b, off, none⟩ ∧ StepIn w b (off + i * 3) kind keep da dn dc ys
theorem cells3 : Tryd.prog.cellsOf 3 = 1 := by kernel_rfl
theorem cellsB : Tryd.prog.cellsOf 22 = 1 := by kernel_rfl
theorem cellsOp : Tryd.prog.cellsOf 41 = 3 := by kernel_rfl
theorem add_none (b off i j : Nat) : ((⟨b, off, none⟩ : Addr).add i).add j = ⟨b, off + i + j, none⟩ := by
  unfold Addr.add
  split <;> rename_i h1 <;> split <;> rename_i h2 <;> simp_all
theorem row_cap {w : World} {a : Option Addr} {len cap : Nat} {zs : List Int} (h : IsRow w a len cap zs) : cap ≤ maxLen := by
  rcases h with ⟨_, _, rfl, _⟩ | ⟨x, _, _, hm, _⟩
  · exact Nat.zero_le _
  · exact hm
theorem bytes_in {H : Type} {enc : TypeId × Value → H} {w : World} {n : Nat} {v : Value} {y : DataW H × List MemPlace} (h : DataW.trod enc Tryd.prog w 0 (fun _ => true) true n 22 [v] = some y) :
    ∃ da dn dc ys, v = .slice da dn dc ∧ Arg w da dn dc ys ∧ dc ≤ maxLen := by
  rcases open_ints Tryd.underlying22 Tryd.underlying5 (by kernel_rfl) h with ⟨hcs, _⟩ | ⟨x, l, c, zs, hcs, _, hl, hm, hz, _, hcell, hwz⟩
  · simp only [List.cons.injEq, and_true] at hcs
    exact ⟨none, 0, 0, [], hcs, nil_arg w, Nat.zero_le _⟩
  · simp only [List.cons.injEq, and_true] at hcs
    obtain ⟨ds, hd⟩ := arg_of_row (w := w) (a := some x) (len := l) (cap := c) (zs := zs) (Or.inr ⟨x, rfl, hl, hm, by simpa using hz, hcell, hwz⟩)
    exact ⟨_, _, _, _, hcs, hd, hm⟩
theorem ops_of_trod {H : Type} {enc : TypeId × Value → H} {w : World} {a : Option Addr} {len cp : Nat} {d : DataW H} {p : List MemPlace}
    (h : DataW.Trod enc Tryd.prog w 0 (fun _ => true) true 34 (.slice a len cp) d p) : ∃ x, Ops w a len cp x := by
  obtain ⟨fuel, h⟩ := h
  refine ⟨[], ?_⟩
  rcases Deep.open_slice Tryd.underlying34 h with ⟨hcs, _⟩ | ⟨ad, l, c, m, n, D, Pl, hcs, _, hl, hm, hmm, _, hi⟩
  · simp [Value.cells] at hcs
    obtain ⟨rfl, rfl, rfl⟩ := hcs
    exact ⟨Nat.le_refl _, fun i hi => by omega⟩
  · simp [Value.cells] at hcs
    obtain ⟨rfl, rfl, rfl⟩ := hcs
    refine ⟨hl, fun i hlt => ?_⟩
    obtain ⟨b, off, spot⟩ := ad
    have hsp : spot = none := by
      obtain ⟨cs, hc, _⟩ := hi 0 (by rw [hmm, if_pos rfl]; omega)
      rw [cellsOp, Nat.zero_mul] at hc
      obtain ⟨_, hcl, hat⟩ := World.cells?_some hc
      have h1 := World.cell?_spot ((hat 0 (by omega)).trans (List.getElem?_eq_getElem (by omega)))
      simpa [Addr.add] using h1
    subst hsp
    obtain ⟨cs, hc, ht⟩ := hi i (by rw [hmm, if_pos rfl]; omega)
    rw [cellsOp] at hc
    obtain ⟨ys, n', _, _, _, hyl, hf⟩ := DataW.trod_struct Tryd.underlying41 ht
    obtain ⟨_, hcl, hat⟩ := World.cells?_some hc
    match cs, hcl with
    | [v0, v1, v2], _ =>
      match ys, hyl with
      | [y0, y1, y2], _ =>
        have f0 : DataW.trod enc Tryd.prog w 0 (fun _ => true) true n' 3 (List.take (Tryd.prog.cellsOf 3) [v0, v1, v2]) = some y0 := hf 0 _ rfl
        rw [cells3] at f0
        have f1 : DataW.trod enc Tryd.prog w 0 (fun _ => true) true n' 3 (List.take (Tryd.prog.cellsOf 3) [v1, v2]) = some y1 := hf 1 _ rfl
        rw [cells3] at f1
        have f2 : DataW.trod enc Tryd.prog w 0 (fun _ => true) true n' 22 (List.take (Tryd.prog.cellsOf 22) [v2]) = some y2 := hf 2 _ rfl
        rw [cellsB] at f2
        obtain ⟨kind, e0, _, _⟩ := DataW.trod_int Tryd.underlying3 f0
        obtain ⟨N, e1, _, hN⟩ := DataW.trod_int Tryd.underlying3 f1
        obtain ⟨da, dn, dc, zs, rfl, hs, hft⟩ := bytes_in f2
        obtain rfl : v0 = _ := (List.cons.inj (show [v0] = [_] from e0)).1
        obtain rfl : v1 = _ := (List.cons.inj (show [v1] = [_] from e1)).1
        simp only [add_none] at hat
        exact ⟨b, off, kind, N, da, dn, dc, zs, rfl, hat 0 (by omega), hat 1 (by omega), hat 2 (by omega), hs, hft⟩

/-! The model. -/
/-- A reel under a journal that never goes down. -/
structure Has (m : Re.M) (cap : Int) (all : List (List Nat)) (sf : Nat) : Prop where
  xs : m.xs = ints (recs all)
  safe : m.safe = ((recs (all.take sf)).length : Nat)
  down : m.down = false
  left : m.left < 0
  cap_ : m.cap = cap
  le : sf ≤ all.length
  fit : ∀ p ∈ all, Fit p
theorem has_len {m : Re.M} {cap : Int} {all : List (List Nat)} {sf : Nat} (h : Has m cap all sf) : m.xs.length = (recs all).length := by rw [h.xs, ints_length]
theorem few_recs (ls : List (List Nat)) : ls.length * 8 ≤ (recs ls).length := by
  induction ls with
  | nil => simp [recs]
  | cons p ls ih => rw [recs_cons, List.length_append, recd_length, List.length_cons]; omega
theorem spend_none {M : Re.M} (h : M.left < 0) : M.spend = (0, M) := by unfold Re.M.spend; rw [if_neg (by omega), if_neg (by omega)]
theorem has_append {m : Re.M} {cap : Int} {all : List (List Nat)} {sf : Nat} (h : Has m cap all sf) {p : List Nat} (hp : Fit p) (hc : (((recs all).length + (p.length + 8) : Nat) : Int) ≤ cap) :
    ∃ m1, m.append (ints (recd p)) = (0, m1) ∧ Has m1 cap (all ++ [p]) sf := by
  refine ⟨{ m with xs := ints (recs all ++ recd p) }, ?_, ?_⟩
  · rw [append_model h.xs h.down (by rw [h.cap_]; exact hc)]
    exact spend_none (M := { m with xs := ints (recs all ++ recd p) }) h.left
  · refine ⟨by rw [recs_snoc], ?_, h.down, h.left, h.cap_, by have := h.le; simp; omega, ?_⟩
    · rw [List.take_append_of_le_length h.le]; exact h.safe
    · intro q hq
      rcases List.mem_append.1 hq with hq | hq
      · exact h.fit q hq
      · simp only [List.mem_singleton] at hq; subst hq; exact hp
theorem has_full {m : Re.M} {cap : Int} {all : List (List Nat)} {sf : Nat} (h : Has m cap all sf) {p : List Nat} (hc : ¬ (((recs all).length + (p.length + 8) : Nat) : Int) ≤ cap) : m.append (ints (recd p)) = (10, m) := by
  have hlen := has_len h
  have hl2 : (ints (recd p)).length = p.length + 8 := by rw [ints_length, recd_length]
  simp only [Re.M.append, h.down, Bool.false_eq_true, if_false]
  rw [if_pos (by rw [hlen, hl2, h.cap_]; omega)]
theorem has_sync {m : Re.M} {cap : Int} {all : List (List Nat)} {sf : Nat} (h : Has m cap all sf) : ∃ m1, m.sync = (0, m1) ∧ Has m1 cap all all.length := by
  refine ⟨{ m with safe := (m.xs.length : Nat) }, ?_, ⟨h.xs, by rw [List.take_length]; simp only [has_len h], h.down, h.left, h.cap_, Nat.le_refl _, h.fit⟩⟩
  have hd := h.down
  have hl := h.left
  simp only [Re.M.sync, hd, Bool.false_eq_true, if_false]
  rw [if_neg (by omega), spend_none hl]
  simp only [hd]
/-- What a crash leaves: the safe bytes ahead. -/
theorem has_crash {m : Re.M} {cap : Int} {all : List (List Nat)} {sf : Nat} (h : Has m cap all sf) (ok : m.Ok) (keep : Int) (ds : List Nat) (hd : Byte ds) :
    ∃ b, Still (m.crash keep (ints ds)) b ∧ (m.crash keep (ints ds)).down = false ∧ (m.crash keep (ints ds)).left = -1 ∧ (m.crash keep (ints ds)).cap = cap ∧
      sf ≤ (scan b).1.length ∧ (scan b).1.take sf = all.take sf ∧ b.length ≤ (recs all).length ∧ (ds = [] → (scan b).1.length ≤ all.length ∧ (scan b).1 = all.take (scan b).1.length) := by
  have hlen := has_len h
  have hS : (recs (all.take sf)).length ≤ (recs all).length := by
    have e : recs all = recs (all.take sf) ++ recs (all.drop sf) := by rw [← recs_append, List.take_append_drop]
    rw [e, List.length_append]; omega
  obtain ⟨n', hn'⟩ : ∃ n', n' = (min (max keep 0) ((m.xs.length : Int) - m.safe)).toNat := ⟨_, rfl⟩
  obtain ⟨t, ht⟩ : ∃ t, t = m.safe.toNat + n' := ⟨_, rfl⟩
  have hts : t ≤ m.xs.length := by rw [ht, hn', h.safe, hlen]; omega
  have hst : m.safe.toNat = (recs (all.take sf)).length := by rw [h.safe]; simp
  obtain ⟨X, hX⟩ : ∃ X, X = Re.mix (m.xs.take t) (ints ds) (t - min n' ds.length) ((ints ds).length - min n' ds.length) (min n' ds.length) := ⟨_, rfl⟩
  have hform : m.crash keep (ints ds) = { cap := m.cap, xs := X, safe := (t : Nat), left := -1, down := false } := by
    rw [hX, ht, hn']
    simp only [Re.M.crash, ints_length]
  have hlt : (m.xs.take t).length = t := by rw [List.length_take]; omega
  have hXl : X.length = t := by rw [hX, Re.mix_length, hlt]
  have hXb : ∀ x ∈ X, 0 ≤ x ∧ x ≤ 255 := by
    rw [hX]
    refine Re.mix_byte (fun x hx => ok.byte x (List.mem_of_mem_take hx)) (ints_byte hd) _ _ _ (by rw [hlt]; omega) (by rw [ints_length]; omega)
  obtain ⟨b, hb, hbb⟩ := nats_of hXb
  have hbl : b.length = t := by rw [← ints_length b, ← hb, hXl]
  have hahead : ∀ j, j < (recs (all.take sf)).length → b[j]? = (recs all)[j]? := by
    intro j hj
    have e1 : X[j]? = (m.xs.take t)[j]? := by rw [hX]; exact Re.mix_ahead _ _ _ _ _ j (Or.inl (by omega))
    rw [List.getElem?_take_of_lt (by omega), h.xs, hb] at e1
    unfold ints at e1
    rw [List.getElem?_map, List.getElem?_map] at e1
    cases h1 : b[j]? with
    | none => rw [h1] at e1; cases h2 : (recs all)[j]? with
      | none => rfl
      | some y => rw [h2] at e1; cases e1
    | some x => rw [h1] at e1; cases h2 : (recs all)[j]? with
      | none => rw [h2] at e1; cases e1
      | some y =>
        rw [h2] at e1
        simp only [Option.map_some, Option.some.injEq] at e1
        congr 1
        omega
  have htake : b.take (recs (all.take sf)).length = recs (all.take sf) := by
    apply List.ext_getElem?
    intro j
    by_cases hj : j < (recs (all.take sf)).length
    · rw [List.getElem?_take_of_lt hj, hahead j hj]
      have e : recs all = recs (all.take sf) ++ recs (all.drop sf) := by rw [← recs_append, List.take_append_drop]
      rw [e, List.getElem?_append_left hj]
    · rw [List.getElem?_eq_none (by rw [List.length_take]; omega), List.getElem?_eq_none (by omega)]
  have hsp : b = recs (all.take sf) ++ b.drop (recs (all.take sf)).length := by
    have := List.take_append_drop (recs (all.take sf)).length b
    rw [htake] at this
    exact this.symm
  have hsc := scan_recs (ls := all.take sf) (fun p hp => h.fit p (List.mem_of_mem_take hp)) (b.drop (recs (all.take sf)).length) (hbb.drop _)
  rw [← hsp] at hsc
  have htl : (all.take sf).length = sf := by rw [List.length_take]; have := h.le; omega
  refine ⟨b, ?_, ?_, ?_, ?_, ?_, ?_, ?_, ?_⟩
  · rw [hform]; exact ⟨hb, hbb, by simp only [hbl]⟩
  · rw [hform]
  · rw [hform]
  · rw [hform]; exact h.cap_
  · rw [hsc]; simp only [List.length_append, htl]; omega
  · rw [hsc]; simp only; rw [List.take_append_of_le_length (by omega), List.take_of_length_le (by omega)]
  · omega
  · intro e
    subst e
    have hX0 : X = m.xs.take t := by
      rw [hX]
      simp only [List.length_nil, Nat.min_zero]
      rfl
    have hb0 : b = (recs all).take t := by
      have e2 : ints b = ints ((recs all).take t) := by rw [← hb, hX0, h.xs, ints_take]
      have e3 := congrArg (List.map Int.toNat) e2
      simpa [ints, Function.comp_def] using e3
    obtain ⟨j, hj, hs⟩ := scan_cut h.fit t
    rw [← hb0] at hs
    rw [hs]
    have hjl : (all.take j).length = j := by rw [List.length_take]; omega
    exact ⟨by simp only [hjl]; exact hj, by simp only [hjl]⟩
end Go.Proofs.YthddjfaeacmlhaaDoor
