/- Trees in plain words: their numbers, what a change at one place leaves; the edits. -/
import Derived.Test.YtfcpbpfemmdklaaP
import Derived.Test.YtfcpbpfemmdklaaI
namespace Go.Proofs.Ytfcpbpfemmdklaa
open Go.RowKit
set_option linter.unusedSimpArgs false
set_option linter.unusedVariables false

/-- What all layers have, each ahead of the ones within it. -/
def dats : List Lay → List Dat
  | [] => []
  | .mk d kids :: ls => d :: (dats kids ++ dats ls)
theorem dats_append : ∀ (xs ys : List Lay), dats (xs ++ ys) = dats xs ++ dats ys
  | [], ys => by rw [dats]; rfl
  | .mk d kids :: xs, ys => by rw [List.cons_append, dats, dats, dats_append xs ys]; simp
def datsC : List PFrm → List Dat
  | [] => []
  | f :: C => f.d :: (dats f.pre ++ (dats f.post ++ datsC C))
theorem dats_plug : ∀ (C : List PFrm) (xs : List Lay), (dats (plugP C xs)).Perm (dats xs ++ datsC C)
  | [], xs => by simp [plugP, datsC]
  | f :: C, xs => by
    refine (dats_plug C _).trans ?_
    rw [dats_append, dats, datsC]
    have e : (dats f.pre ++ f.d :: (dats xs ++ dats f.post)).Perm (dats xs ++ (f.d :: (dats f.pre ++ dats f.post))) := by
      refine List.perm_middle.trans ?_
      refine ((List.Perm.cons f.d ?_).trans List.perm_middle.symm)
      rw [← List.append_assoc, ← List.append_assoc]
      exact List.perm_append_comm.append_right _
    refine (e.append_right _).trans ?_
    simp
theorem go_none (id : Int) : ∀ (n : Nat) (ls : List Lay), SizeOf.sizeOf ls ≤ n → ∀ (C : List PFrm) (pre : List Lay), go id C pre ls = none ↔ ∀ d ∈ dats ls, d.id ≠ id
  | 0, ls, hs, _, _ => by cases ls <;> simp at hs
  | n + 1, [], hs, C, pre => by rw [go, dats]; simp
  | n + 1, .mk d kids :: ls, hs, C, pre => by
    simp only [List.cons.sizeOf_spec, Lay.mk.sizeOf_spec] at hs
    rw [go, dats]
    by_cases hd : d.id = id
    · rw [if_pos hd]
      simp [hd]
    · rw [if_neg hd]
      have h1 := go_none id n kids (by omega) (⟨pre, d, ls⟩ :: C) []
      have h2 := go_none id n ls (by omega) C (pre ++ [.mk d kids])
      cases hk : go id (⟨pre, d, ls⟩ :: C) [] kids with
      | some r =>
        rw [hk] at h1
        constructor
        · intro h; cases h
        · intro h
          have := h1.2 (fun x hx => h x (by simp [hx]))
          cases this
      | none =>
        rw [hk] at h1
        simp only
        rw [h2]
        constructor
        · intro h x hx
          rcases List.mem_cons.1 hx with rfl | hx
          · exact hd
          · rcases List.mem_append.1 hx with hx | hx
            · exact h1.1 rfl x hx
            · exact h x hx
        · intro h x hx
          exact h x (by simp [hx])
theorem fnd_none {id : Int} {ls : List Lay} : fnd id ls = none ↔ ∀ d ∈ dats ls, d.id ≠ id := go_none id _ ls (Nat.le_refl _) [] []
/-- The layers within, and outside: all. -/
theorem fnd_dats {id : Int} {ls : List Lay} {r : At'} (h : fnd id ls = some r) : (dats ls).Perm (dats r.pre ++ (r.d :: (dats r.kids ++ dats r.post)) ++ datsC r.C) := by
  have := dats_plug r.C (r.pre ++ .mk r.d r.kids :: r.post)
  rw [(fnd_plug h).1, dats_append, dats] at this
  exact this
/-- Numbers that stand once, none of them 0. -/
structure Uniq (ls : List Lay) : Prop where
  nodup : ((dats ls).map (·.id)).Nodup
  pos : ∀ d ∈ dats ls, d.id ≠ 0
theorem uniq_dat {xs : List Dat} (h : (xs.map (·.id)).Nodup) {a b : Dat} (ha : a ∈ xs) (hb : b ∈ xs) (e : a.id = b.id) : a = b := by
  induction xs with
  | nil => cases ha
  | cons x xs ih =>
    rw [List.map_cons, List.nodup_cons] at h
    rcases List.mem_cons.1 ha with rfl | ha2 <;> rcases List.mem_cons.1 hb with rfl | hb2
    · rfl
    · exact (h.1 (List.mem_map.2 ⟨b, hb2, e.symm⟩)).elim
    · exact (h.1 (List.mem_map.2 ⟨a, ha2, e⟩)).elim
    · exact ih h.2 ha2 hb2
def pcnt (ls : List Lay) : Nat := (dats ls).length
theorem cnt_er : ∀ (n : Nat) (ls : List Loc), SizeOf.sizeOf ls ≤ n → cnt ls = pcnt (er ls)
  | 0, ls, hs => by cases ls <;> simp at hs
  | n + 1, [], hs => by rw [cnt, er, pcnt, dats]; rfl
  | n + 1, .mk d p m q k kids :: ls, hs => by
    simp only [List.cons.sizeOf_spec, Loc.mk.sizeOf_spec] at hs
    have h1 := cnt_er n kids (by omega)
    have h2 := cnt_er n ls (by omega)
    rw [cnt, er, h1, h2]
    unfold pcnt
    rw [dats]
    simp
theorem cnt_eq (ls : List Loc) : cnt ls = pcnt (er ls) := cnt_er _ ls (Nat.le_refl _)
/-- How deep the layers stand, below a home of this depth. -/
def dps : Nat → List Lay → List Nat
  | _, [] => []
  | n, .mk d kids :: ls => (n + 1) :: (dps (n + 1) kids ++ dps n ls)
def deepP (n : Nat) (ls : List Lay) : Nat := (dps n ls).foldl max n
theorem dps_sps : ∀ (n : Nat) (ls : List Loc), SizeOf.sizeOf ls ≤ n → ∀ (hid : Int) (kb ko dep b o i : Nat), (sps hid kb ko dep b o i ls).map (fun X => X.dep + 1) = dps dep (er ls)
  | 0, ls, hs, _, _, _, _, _, _, _ => by cases ls <;> simp at hs
  | n + 1, [], hs, _, _, _, _, _, _, _ => by rw [sps, er, dps]; rfl
  | n + 1, .mk d p m q k kids :: ls, hs, hid, kb, ko, dep, b, o, i => by
    simp only [List.cons.sizeOf_spec, Loc.mk.sizeOf_spec] at hs
    rw [sps, er, dps, List.map_cons, List.map_append, dps_sps n kids (by omega), dps_sps n ls (by omega)]
theorem deep_er (hid : Int) (kb ko dep b o : Nat) (ls : List Loc) : deepS dep (sps hid kb ko dep b o 0 ls) = deepP dep (er ls) := by
  unfold deepS deepP
  rw [← dps_sps _ ls (Nat.le_refl _) hid kb ko dep b o 0, List.foldl_map]
end Go.Proofs.Ytfcpbpfemmdklaa
