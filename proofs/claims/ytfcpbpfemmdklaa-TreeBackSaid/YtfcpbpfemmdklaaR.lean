/- What edits do to a tree, in plain words (adding, deleting, moving). -/
import Derived.Test.YtfcpbpfemmdklaaQ
namespace Go.Proofs.Ytfcpbpfemmdklaa
open Go.RowKit
set_option linter.unusedSimpArgs false
set_option linter.unusedVariables false

def sideP (n : Int) : Bool := decide (1 ≤ n) && decide (n ≤ 32768)
def areaP (w h : Int) : Bool := sideP w && (sideP h && decide (w * h ≤ 4194304))
/-- A group, or the root, in which layers may stand. -/
def homeP (to : Int) (ls : List Lay) : Except Int (List PFrm × List Lay) :=
  if to = 0 then .ok ([], ls) else
  match fnd to ls with
  | none => .error 40
  | some r => if r.d.kind = 1 then .ok (⟨r.pre, r.d, r.post⟩ :: r.C, r.kids) else .error 41
def pidOf : List PFrm → Int
  | [] => 0
  | f :: _ => f.d.id
def insAt (at_ : Int) (l : Lay) (ls : List Lay) : List Lay := if at_ = -1 then ls ++ [l] else ls.take at_.toNat ++ l :: ls.drop at_.toNat
/-- An edit. -/
structure PEd where
  kind : Int
  id : Int
  to : Int
  at_ : Int
  n : Int
  m : Int
  x : Int
  y : Int
  w : Int
  h : Int
  p : List Int
  shape : List (Int × Int)
  ma : Int
  mb : Int
  mc : Int
  md : Int
  me : Int
  mf : Int
  pars : List Int
def freshD (z : Int) (n w h : Int) : Dat := if n = 0 then ⟨z, n, false, 255, 0, w, h, List.replicate (w * h).toNat 0, [], 65536, 0, 0, 65536, 0, 0, false, 2, []⟩ else ⟨z, n, false, 255, 0, 0, 0, [], [], 65536, 0, 0, 65536, 0, 0, false, 2, []⟩
theorem freshD_id (z n w h : Int) : (freshD z n w h).id = z := by unfold freshD; split <;> rfl
def addP (z : Int) (ls : List Lay) (to at_ n w h : Int) : Except Int (List Lay) :=
  if ¬ (0 ≤ n ∧ n ≤ 2) then .error 41 else if n = 0 ∧ areaP w h = false then .error 31 else
  match homeP to ls with
  | .error f => .error f
  | .ok (C, kids) => if at_ < -1 ∨ (kids.length : Int) < at_ then .error 43 else if 4096 ≤ pcnt ls ∨ 64 ≤ C.length then .error 31 else .ok (plugP C (insAt at_ (.mk (freshD z n w h) []) kids))
def removeP (ls : List Lay) (id : Int) : Except Int (List Lay) :=
  match fnd id ls with
  | none => .error 40
  | some r => .ok (plugP r.C (r.pre ++ r.post))
def heightP (n : Nat) (kids : List Lay) : Nat := deepP (n + 1) kids - n
def moveP (ls : List Lay) (id to at_ : Int) : Except Int (List Lay) :=
  match fnd id ls with
  | none => .error 40
  | some r =>
    match homeP to ls with
    | .error f => .error f
    | .ok (C, kids) =>
      if r.d.id = to ∨ (fnd to r.kids).isSome = true then .error 42 else
      if at_ < -1 ∨ ((kids.length : Int) - (if pidOf r.C = pidOf C then 1 else 0)) < at_ then .error 43 else
      if 64 < C.length + heightP r.C.length r.kids then .error 31 else
      match homeP to (plugP r.C (r.pre ++ r.post)) with
      | .error f => .error f
      | .ok (C', kids') => .ok (plugP C' (insAt at_ (.mk r.d r.kids) kids'))
/-- What the trees of documents have, whatever edits were done. -/
structure Good (z : Int) (ls : List Lay) : Prop where
  nodup : ((dats ls).map (·.id)).Nodup
  range : ∀ d ∈ dats ls, 1 ≤ d.id ∧ d.id < z
  cnt : pcnt ls ≤ 4096
  one : 1 ≤ z
theorem dats_rest {id : Int} {ls : List Lay} {r : At'} (h : fnd id ls = some r) : (dats ls).Perm (dats (plugP r.C (r.pre ++ r.post)) ++ r.d :: dats r.kids) := by
  refine (fnd_dats h).trans (List.Perm.trans ?_ ((dats_plug r.C (r.pre ++ r.post)).append_right _).symm)
  rw [dats_append]
  have e : (dats r.pre ++ r.d :: (dats r.kids ++ dats r.post)).Perm ((dats r.pre ++ dats r.post) ++ r.d :: dats r.kids) := by
    rw [List.append_assoc]
    refine List.Perm.append_left _ ?_
    have : (dats r.post ++ r.d :: dats r.kids).Perm (r.d :: dats r.kids ++ dats r.post) := List.perm_append_comm
    exact this.symm
  refine (e.append_right _).trans ?_
  rw [List.append_assoc (dats r.pre ++ dats r.post), List.append_assoc (dats r.pre ++ dats r.post)]
  exact List.Perm.append_left _ List.perm_append_comm
theorem homeP_mem {to : Int} {ls : List Lay} {x : List PFrm × List Lay} (h : homeP to ls = .ok x) (h0 : to ≠ 0) : ∃ r, fnd to ls = some r ∧ r.d.kind = 1 ∧ x = (⟨r.pre, r.d, r.post⟩ :: r.C, r.kids) := by
  unfold homeP at h
  rw [if_neg h0] at h
  cases hf : fnd to ls with
  | none => rw [hf] at h; cases h
  | some r =>
    rw [hf] at h
    simp only at h
    by_cases hk : r.d.kind = 1
    · rw [if_pos hk] at h
      cases h
      exact ⟨r, rfl, hk, rfl⟩
    · rw [if_neg hk] at h; cases h
theorem homeP_plug {to : Int} {ls : List Lay} {C : List PFrm} {kids : List Lay} (h : homeP to ls = .ok (C, kids)) : plugP C kids = ls ∧ pidOf C = to := by
  by_cases h0 : to = 0
  · unfold homeP at h
    rw [if_pos h0] at h
    cases h
    exact ⟨rfl, h0.symm⟩
  · obtain ⟨r, h1, h2, h3⟩ := homeP_mem h h0
    cases h3
    exact fnd_plug h1
theorem fnd_mem {id : Int} {ls : List Lay} {r : At'} (h : fnd id ls = some r) : r.d ∈ dats ls := (fnd_dats h).mem_iff.2 (by simp)
/-- What isn't taken out is found again. -/
theorem homeP_rest {z : Int} {id to : Int} {ls : List Lay} {r : At'} {x : List PFrm × List Lay} (G : Good z ls) (h : fnd id ls = some r) (ht : homeP to ls = .ok x) (h1 : r.d.id ≠ to) (h2 : fnd to r.kids = none) :
    ∃ C' kids', homeP to (plugP r.C (r.pre ++ r.post)) = .ok (C', kids') := by
  by_cases h0 : to = 0
  · exact ⟨[], _, by unfold homeP; rw [if_pos h0]⟩
  · obtain ⟨r2, e1, e2, -⟩ := homeP_mem ht h0
    have p := dats_rest h
    have hm := p.mem_iff.1 (fnd_mem e1)
    have hid := (fnd_plug e1).2
    have hin : r2.d ∈ dats (plugP r.C (r.pre ++ r.post)) := by
      rcases List.mem_append.1 hm with hm | hm
      · exact hm
      · rcases List.mem_cons.1 hm with hm | hm
        · rw [hm] at hid; exact absurd hid h1
        · exact absurd hid (fnd_none.1 h2 _ hm)
    cases hf : fnd to (plugP r.C (r.pre ++ r.post)) with
    | none => exact absurd hid (fnd_none.1 hf _ hin)
    | some r3 =>
      have e3 : r3.d = r2.d := uniq_dat G.nodup (p.mem_iff.2 (List.mem_append.2 (.inl (fnd_mem hf)))) (fnd_mem e1) ((fnd_plug hf).2.trans hid.symm)
      exact ⟨⟨r3.pre, r3.d, r3.post⟩ :: r3.C, r3.kids, by unfold homeP; rw [if_neg h0, hf]; simp only; rw [if_pos (by rw [e3]; exact e2)]⟩
theorem dats_insAt (at_ : Int) (l : Lay) (ls : List Lay) : (dats (insAt at_ l ls)).Perm (dats [l] ++ dats ls) := by
  unfold insAt
  split
  · rw [dats_append]; exact List.perm_append_comm
  · have e : ls.take at_.toNat ++ l :: ls.drop at_.toNat = ls.take at_.toNat ++ ([l] ++ ls.drop at_.toNat) := rfl
    rw [e, dats_append, dats_append, ← List.append_assoc]
    refine (List.perm_append_comm.append_right _).trans ?_
    rw [List.append_assoc, ← dats_append, List.take_append_drop]
theorem dats_one (d : Dat) (kids : List Lay) : dats [.mk d kids] = d :: dats kids := by rw [dats, dats]; simp
theorem good_add {z : Int} {ls ls' : List Lay} {to at_ n w h : Int} (G : Good z ls) (e : addP z ls to at_ n w h = .ok ls') : Good (z + 1) ls' ∧ pcnt ls' = pcnt ls + 1 := by
  unfold addP at e
  split at e
  · cases e
  split at e
  · cases e
  split at e
  · cases e
  rename_i C kids hh
  split at e
  · cases e
  split at e
  · cases e
  rename_i hlim
  cases e
  have p : (dats (plugP C (insAt at_ (.mk (freshD z n w h) []) kids))).Perm (freshD z n w h :: dats ls) := by
    refine (dats_plug C _).trans (((dats_insAt at_ _ kids).append_right _).trans ?_)
    rw [dats_one, dats, List.cons_append, List.cons_append]
    refine List.Perm.cons _ ?_
    have := dats_plug C kids
    rw [(homeP_plug hh).1] at this
    simpa using this.symm
  have hc : pcnt (plugP C (insAt at_ (.mk (freshD z n w h) []) kids)) = pcnt ls + 1 := by
    unfold pcnt
    rw [p.length_eq, List.length_cons]
  refine ⟨⟨?_, fun d hd => ?_, ?_, ?_⟩, hc⟩
  · rw [(p.map _).nodup_iff, List.map_cons, List.nodup_cons]
    refine ⟨fun hm => ?_, G.nodup⟩
    obtain ⟨d, hd, e⟩ := List.mem_map.1 hm
    have := (G.range d hd).2
    rw [freshD_id] at e
    omega
  · rcases List.mem_cons.1 (p.mem_iff.1 hd) with rfl | hd
    · rw [freshD_id]; have := G.one; omega
    · have := G.range d hd; omega
  · rw [hc]; omega
  · have := G.one; omega
theorem good_remove {z : Int} {ls ls' : List Lay} {id : Int} (G : Good z ls) (e : removeP ls id = .ok ls') : Good z ls' := by
  unfold removeP at e
  split at e
  · cases e
  rename_i r hr
  cases e
  have p := dats_rest hr
  refine ⟨?_, fun d hd => G.range d (p.mem_iff.2 (List.mem_append.2 (.inl hd))), ?_, G.one⟩
  · have := (p.map (·.id)).nodup_iff.1 G.nodup
    rw [List.map_append] at this
    exact (List.nodup_append.1 this).1
  · have := G.cnt
    unfold pcnt at this ⊢
    rw [p.length_eq, List.length_append] at this
    omega
theorem good_move {z : Int} {ls ls' : List Lay} {id to at_ : Int} (G : Good z ls) (e : moveP ls id to at_ = .ok ls') : Good z ls' ∧ (dats ls').Perm (dats ls) := by
  unfold moveP at e
  split at e
  · cases e
  rename_i r hr
  split at e
  · cases e
  rename_i C kids hh
  generalize ((kids.length : Int) - (if pidOf r.C = pidOf C then 1 else 0)) = room at e
  split at e
  · cases e
  split at e
  · cases e
  split at e
  · cases e
  split at e
  · cases e
  rename_i C' kids' hh'
  cases e
  have p : (dats (plugP C' (insAt at_ (.mk r.d r.kids) kids'))).Perm (dats ls) := by
    refine (dats_plug C' _).trans (((dats_insAt at_ _ kids').append_right _).trans ?_)
    rw [List.append_assoc]
    have := dats_plug C' kids'
    rw [(homeP_plug hh').1] at this
    refine ((List.Perm.append_left _ this.symm).trans ?_)
    rw [dats_one]
    exact List.perm_append_comm.trans (dats_rest hr).symm
  refine ⟨⟨(p.map _).nodup_iff.2 G.nodup, fun d hd => G.range d (p.mem_iff.1 hd), ?_, G.one⟩, p⟩
  have := G.cnt
  unfold pcnt at this ⊢
  rw [p.length_eq]
  exact this
end Go.Proofs.Ytfcpbpfemmdklaa
