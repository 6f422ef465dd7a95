/- Texts of a layer, one behind the other. -/
import Derived.Test.YtfcpbpfemmdklaaMV
import Derived.Test.YtfcpbpfemmdklaaZT
import Derived.Test.YtfcpbpfemmdklaaMLa
import Derived.Laws.IdiomArrays
import Derived.Test.YtfcpbpfemmdklaaZE
/- What all layers of a played document have: plain. -/
namespace Go.Proofs.Ytfcpbpfemmdklaa
open Go.RowKit Go.Lib
set_option linter.unusedSimpArgs false
set_option linter.unusedVariables false

/-- A condition on all layers, by how deep they stand; only groups have kids. -/
def AllN (P : Nat → Dat → Prop) : Nat → List Lay → Prop
  | _, [] => True
  | n, .mk d kids :: ls => (P (n + 1) d ∧ (d.kind ≠ 1 → kids = [])) ∧ AllN P (n + 1) kids ∧ AllN P n ls
/-- The same of what lies outside a home. -/
def CtxN (P : Nat → Dat → Prop) : List PFrm → Prop
  | [] => True
  | f :: C => AllN P C.length f.pre ∧ (P (C.length + 1) f.d ∧ f.d.kind = 1) ∧ AllN P C.length f.post ∧ CtxN P C
theorem allN_append {P : Nat → Dat → Prop} {n : Nat} : ∀ {xs ys : List Lay}, AllN P n (xs ++ ys) ↔ AllN P n xs ∧ AllN P n ys
  | [], ys => by rw [List.nil_append, AllN]; simp
  | .mk d kids :: xs, ys => by rw [List.cons_append, AllN, AllN, allN_append (xs := xs)]; simp only [and_assoc]
theorem plugN {P : Nat → Dat → Prop} : ∀ {C : List PFrm} {xs : List Lay}, CtxN P C → AllN P C.length xs → AllN P 0 (plugP C xs)
  | [], xs, _, h => by rw [plugP]; exact h
  | f :: C, xs, c, h => by
    rw [CtxN] at c
    obtain ⟨c1, ⟨c2, c3⟩, c4, c5⟩ := c
    rw [plugP]
    refine plugN c5 (allN_append.2 ⟨c1, ?_⟩)
    rw [AllN]
    exact ⟨⟨c2, fun e => absurd c3 e⟩, h, c4⟩
theorem unplugN {P : Nat → Dat → Prop} : ∀ {C : List PFrm} {xs : List Lay}, xs ≠ [] → AllN P 0 (plugP C xs) → CtxN P C ∧ AllN P C.length xs
  | [], xs, _, h => by rw [plugP] at h; exact ⟨by rw [CtxN]; trivial, h⟩
  | f :: C, xs, hx, h => by
    rw [plugP] at h
    obtain ⟨c, a⟩ := unplugN (C := C) (by simp) h
    rw [allN_append, AllN] at a
    obtain ⟨a1, ⟨a2, a3⟩, a4, a5⟩ := a
    refine ⟨?_, a4⟩
    rw [CtxN]
    refine ⟨a1, ⟨a2, ?_⟩, a5, c⟩
    by_cases hk : f.d.kind = 1
    · exact hk
    · exact absurd (a3 hk) hx
theorem fndN {P : Nat → Dat → Prop} {id : Int} {ls : List Lay} {r : At'} (h : fnd id ls = some r) (A : AllN P 0 ls) : CtxN P r.C ∧ AllN P r.C.length (r.pre ++ .mk r.d r.kids :: r.post) := by
  have e := (fnd_plug h).1
  rw [← e] at A
  exact unplugN (by simp) A
theorem homeN {P : Nat → Dat → Prop} {to : Int} {ls : List Lay} {C : List PFrm} {kids : List Lay} (h : homeP to ls = .ok (C, kids)) (A : AllN P 0 ls) : CtxN P C ∧ AllN P C.length kids := by
  by_cases h0 : to = 0
  · unfold homeP at h
    rw [if_pos h0] at h
    cases h
    exact ⟨by rw [CtxN]; trivial, A⟩
  · obtain ⟨r, h1, h2, h3⟩ := homeP_mem h h0
    cases h3
    obtain ⟨c, a⟩ := fndN h1 A
    rw [allN_append, AllN] at a
    obtain ⟨a1, ⟨a2, -⟩, a4, a5⟩ := a
    exact ⟨by rw [CtxN]; exact ⟨a1, ⟨a2, h2⟩, a5, c⟩, a4⟩
theorem insN {P : Nat → Dat → Prop} {n : Nat} {at_ : Int} {l : Lay} {ls : List Lay} (h : AllN P n [l]) (A : AllN P n ls) : AllN P n (insAt at_ l ls) := by
  unfold insAt
  split
  · exact allN_append.2 ⟨A, h⟩
  · have e : ls.take at_.toNat ++ l :: ls.drop at_.toNat = ls.take at_.toNat ++ ([l] ++ ls.drop at_.toNat) := rfl
    have A' := A
    rw [← List.take_append_drop at_.toNat ls, allN_append] at A'
    rw [e]
    exact allN_append.2 ⟨A'.1, allN_append.2 ⟨h, A'.2⟩⟩
theorem dps_shift (j : Nat) : ∀ (n k : Nat) (ls : List Lay), SizeOf.sizeOf ls ≤ n → dps (k + j) ls = (dps k ls).map (· + j)
  | 0, k, ls, h => by cases ls <;> simp at h
  | n + 1, k, [], h => by rw [dps, dps]; rfl
  | n + 1, k, .mk d kids :: ls, h => by
    simp only [List.cons.sizeOf_spec, Lay.mk.sizeOf_spec] at h
    rw [dps, dps, show k + j + 1 = k + 1 + j by omega, dps_shift j n (k + 1) kids (by omega), dps_shift j n k ls (by omega)]
    simp [List.map_append]
theorem le_foldl_max : ∀ (l : List Nat) (n m : Nat), (m ∈ l ∨ m ≤ n) → m ≤ l.foldl max n
  | [], n, m, h => by
    rcases h with h | h
    · cases h
    · exact h
  | a :: l, n, m, h => by
    rw [List.foldl_cons]
    refine le_foldl_max l (max n a) m ?_
    rcases h with h | h
    · rcases List.mem_cons.1 h with rfl | h
      · exact .inr (by omega)
      · exact .inl h
    · exact .inr (by omega)
/-- The layers of a moved one stand as deep as its home says. -/
theorem dps_height {k c : Nat} {kids : List Lay} : ∀ m ∈ dps (c + 1) kids, m ≤ c + heightP k kids := by
  intro m hm
  have h0 : dps (c + 1) kids = (dps 0 kids).map (· + (c + 1)) := by
    have := dps_shift (c + 1) _ 0 kids (Nat.le_refl _)
    rwa [Nat.zero_add] at this
  have h1 : dps (k + 1) kids = (dps 0 kids).map (· + (k + 1)) := by
    have := dps_shift (k + 1) _ 0 kids (Nat.le_refl _)
    rwa [Nat.zero_add] at this
  rw [h0] at hm
  obtain ⟨a, ha, rfl⟩ := List.mem_map.1 hm
  have h2 : a + (k + 1) ≤ deepP (k + 1) kids := le_foldl_max _ _ _ (.inl (by rw [h1]; exact List.mem_map.2 ⟨a, ha, rfl⟩))
  unfold heightP
  show a + (c + 1) ≤ _
  omega
theorem height_pos (k : Nat) (kids : List Lay) : 1 ≤ heightP k kids := by
  have h : k + 1 ≤ deepP (k + 1) kids := le_foldl_max _ _ _ (.inr (Nat.le_refl _))
  unfold heightP
  omega
/-- Layers that stand elsewhere. -/
theorem shiftN {R : Dat → Prop} : ∀ (n k c : Nat) (ls : List Lay), SizeOf.sizeOf ls ≤ n → AllN (fun m d => m ≤ 64 ∧ R d) k ls → (∀ m ∈ dps c ls, m ≤ 64) → AllN (fun m d => m ≤ 64 ∧ R d) c ls
  | 0, k, c, ls, h, _, _ => by cases ls <;> simp at h
  | n + 1, k, c, [], h, _, _ => by rw [AllN]; trivial
  | n + 1, k, c, .mk d kids :: ls, h, A, H => by
    simp only [List.cons.sizeOf_spec, Lay.mk.sizeOf_spec] at h
    rw [AllN] at A ⊢
    obtain ⟨⟨⟨-, a1⟩, a2⟩, a3, a4⟩ := A
    rw [dps] at H
    exact ⟨⟨⟨H _ (by simp), a1⟩, a2⟩, shiftN n (k + 1) (c + 1) kids (by omega) a3 (fun m hm => H m (by simp [hm])), shiftN n k c ls (by omega) a4 (fun m hm => H m (by simp [hm]))⟩
/-- How deep a layer stands, beside it. -/
def nd : Nat → List Lay → List (Nat × Dat)
  | _, [] => []
  | n, .mk d kids :: ls => (n + 1, d) :: (nd (n + 1) kids ++ nd n ls)
theorem nd_append (n : Nat) : ∀ (xs ys : List Lay), nd n (xs ++ ys) = nd n xs ++ nd n ys
  | [], ys => by rw [nd]; rfl
  | .mk d kids :: xs, ys => by rw [List.cons_append, nd, nd, nd_append n xs ys, List.cons_append, List.append_assoc]
def ndC : List PFrm → List (Nat × Dat)
  | [] => []
  | f :: C => nd C.length f.pre ++ ((C.length + 1, f.d) :: nd C.length f.post) ++ ndC C
theorem nd_plug : ∀ (C : List PFrm) (xs : List Lay), (nd 0 (plugP C xs)).Perm (nd C.length xs ++ ndC C)
  | [], xs => by rw [plugP, ndC, List.append_nil]; exact List.Perm.refl _
  | f :: C, xs => by
    rw [plugP]
    refine (nd_plug C _).trans ?_
    rw [nd_append, nd, ndC]
    simp only [List.length_cons]
    classical
    rw [List.perm_iff_count]
    intro a
    simp only [List.count_append, List.count_cons]
    omega
theorem nd_dats (n : Nat) : ∀ (k : Nat) (ls : List Lay), SizeOf.sizeOf ls ≤ n → (nd k ls).map (·.2) = dats ls := by
  induction n with
  | zero => intro k ls h; cases ls <;> simp at h
  | succ n ih =>
    intro k ls h
    match ls, h with
    | [], h => rw [nd, dats]; rfl
    | .mk d kids :: ls, h =>
      simp only [List.cons.sizeOf_spec, Lay.mk.sizeOf_spec] at h
      rw [nd, dats, List.map_cons, List.map_append, ih _ kids (by omega), ih _ ls (by omega)]
theorem nd_uniq {ls : List Lay} (h : ((dats ls).map (·.id)).Nodup) {m m' : Nat} {d d' : Dat} (a : (m, d) ∈ nd 0 ls) (b : (m', d') ∈ nd 0 ls) (e : d.id = d'.id) : m = m' ∧ d = d' := by
  rw [← nd_dats _ 0 ls (Nat.le_refl _), List.map_map] at h
  have key : ∀ (l : List (Nat × Dat)), (l.map ((·.id) ∘ (·.2))).Nodup → ∀ x ∈ l, ∀ y ∈ l, x.2.id = y.2.id → x = y := by
    intro l
    induction l with
    | nil => intro _ x hx; cases hx
    | cons u l ih =>
      intro hn x hx y hy exy
      rw [List.map_cons, List.nodup_cons] at hn
      have h1 := List.mem_cons.1 hx
      have h2 := List.mem_cons.1 hy
      clear hx hy
      rcases h1 with e1 | h1
      · rcases h2 with e2 | h2
        · rw [e1, e2]
        · exact (hn.1 (List.mem_map.2 ⟨y, h2, by rw [← e1]; exact exy.symm⟩)).elim
      · rcases h2 with e2 | h2
        · exact (hn.1 (List.mem_map.2 ⟨x, h1, by rw [← e2]; exact exy⟩)).elim
        · exact ih hn.2 x h1 y h2 exy
  have := key _ h _ a _ b e
  exact ⟨congrArg (·.1) this, congrArg (·.2) this⟩
theorem fnd_nd {id : Int} {ls : List Lay} {r : At'} (h : fnd id ls = some r) : (r.C.length + 1, r.d) ∈ nd 0 ls := by
  have e := (fnd_plug h).1
  rw [← e]
  refine (nd_plug r.C _).mem_iff.2 ?_
  rw [nd_append, nd]
  simp
/-- A home stands as deep as before when something else was taken out. -/
theorem home_depth {z : Int} {id to : Int} {ls : List Lay} {r : At'} {C C' : List PFrm} {kids kids' : List Lay} (G : Good z ls) (h : fnd id ls = some r) (h1 : homeP to ls = .ok (C, kids)) (h2 : homeP to (plugP r.C (r.pre ++ r.post)) = .ok (C', kids')) : C'.length = C.length := by
  by_cases h0 : to = 0
  · unfold homeP at h1 h2
    rw [if_pos h0] at h1 h2
    cases h1
    cases h2
    rfl
  · obtain ⟨r1, a1, a2, a3⟩ := homeP_mem h1 h0
    obtain ⟨r2, b1, b2, b3⟩ := homeP_mem h2 h0
    cases a3
    cases b3
    have m1 := fnd_nd a1
    have m2 := fnd_nd b1
    have m3 : (r2.C.length + 1, r2.d) ∈ nd 0 ls := by
      have e := (fnd_plug h).1
      rw [← e]
      refine (nd_plug r.C _).mem_iff.2 ?_
      have := (nd_plug r.C _).mem_iff.1 m2
      rw [nd_append, nd]
      rw [nd_append] at this
      simp only [List.mem_append, List.mem_cons] at this ⊢
      rcases this with (h | h) | h
      · exact .inl (.inl h)
      · exact .inl (.inr (.inr (.inr h)))
      · exact .inr h
    have := (nd_uniq G.nodup m3 m1 ((fnd_plug b1).2.trans (fnd_plug a1).2.symm)).1
    simp only [List.length_cons]
    omega
end Go.Proofs.Ytfcpbpfemmdklaa

/- What stays whatever edits are done: plain. -/
namespace Go.Proofs.Ytfcpbpfemmdklaa
open Go.RowKit Go.Lib
set_option linter.unusedSimpArgs false
set_option linter.unusedVariables false

abbrev Deep64 (R : Dat → Prop) : Nat → Dat → Prop := fun m d => m ≤ 64 ∧ R d
/-- What a played document's layers have. -/
structure Inv (R : Dat → Prop) (z : Int) (ls : List Lay) : Prop where
  good : Good z ls
  all : AllN (Deep64 R) 0 ls
/-- A condition on layers that no edit breaks. -/
structure Closed (x y : Int) (R : Dat → Prop) : Prop where
  fresh : ∀ z n w h, 0 ≤ n → n ≤ 2 → (n = 0 → areaP w h = true) → R (freshD z n w h)
  paint : ∀ d (e : PEd), R d → d.kind = 0 → formP e.w e.h e.p = true → R (setP d (paintN d.w e.y e.x e.w.toNat e.p e.h.toNat d.p))
  look : ∀ d n m, R d → uptoB n 255 = true → uptoB m 11 = true → ¬ (d.kind = 2 ∧ m ≠ 0) → R (setOM d n m)
  hide : ∀ d b, R d → R (setHid d b)
  unmask : ∀ d, R d → R (setMask d [])
  mask : ∀ d ps inv, R d → R (setMask d (maskL ps x.toNat y.toNat inv))
  place : ∀ d e b, R d → d.kind = 0 → (Ax.Af.backE (mapOf e)).2 = 0 → R (setMap d e b)
  adjust : ∀ d n l, R d → d.kind = 2 → tabB n l = true → R (setTab d n l)
theorem turnInv {R : Dat → Prop} {z : Int} {id : Int} {ls : List Lay} {r : At'} {d' : Dat} (I : Inv R z ls) (h : fnd id ls = some r) (hid : d'.id = r.d.id) (hk : d'.kind = r.d.kind) (hR : R r.d → R d') : Inv R z (plugP r.C (r.pre ++ .mk d' r.kids :: r.post)) := by
  obtain ⟨c, a⟩ := fndN h I.all
  have e := (fnd_plug h).1
  have p1 : (dats (plugP r.C (r.pre ++ .mk d' r.kids :: r.post))).Perm (d' :: (dats r.pre ++ (dats r.kids ++ dats r.post) ++ datsC r.C)) := by
    refine (dats_plug r.C _).trans ?_
    rw [dats_append, dats]
    classical
    rw [List.perm_iff_count]
    intro u
    simp only [List.count_append, List.count_cons]
    omega
  have p2 : (dats ls).Perm (r.d :: (dats r.pre ++ (dats r.kids ++ dats r.post) ++ datsC r.C)) := by
    refine (fnd_dats h).trans ?_
    classical
    rw [List.perm_iff_count]
    intro u
    simp only [List.count_append, List.count_cons]
    omega
  refine ⟨⟨?_, fun d hd => ?_, ?_, I.good.one⟩, plugN c ?_⟩
  · have h1 := I.good.nodup
    rw [(p2.map _).nodup_iff, List.map_cons] at h1
    rw [(p1.map _).nodup_iff, List.map_cons, hid]
    exact h1
  · rcases List.mem_cons.1 (p1.mem_iff.1 hd) with rfl | hd
    · rw [hid]
      exact I.good.range _ (p2.mem_iff.2 (by simp))
    · exact I.good.range _ (p2.mem_iff.2 (List.mem_cons.2 (.inr hd)))
  · have h1 := I.good.cnt
    unfold pcnt at h1 ⊢
    rw [p2.length_eq] at h1
    rw [p1.length_eq]
    exact h1
  · rw [allN_append, AllN] at a ⊢
    obtain ⟨a1, ⟨⟨⟨a2, a2'⟩, a3⟩, a4⟩, a5⟩ := (⟨a.1, ⟨a.2.1, a.2.2.1⟩, a.2.2.2⟩ : _ ∧ (_ ∧ _) ∧ _)
    exact ⟨a1, ⟨⟨a2, hR a2'⟩, fun e => a3 (by rw [← hk]; exact e)⟩, a4, a5⟩
theorem addInv {R : Dat → Prop} {x y z : Int} {ls ls' : List Lay} {to at_ n w h : Int} (Cl : Closed x y R) (I : Inv R z ls) (e : addP z ls to at_ n w h = .ok ls') : Inv R (z + 1) ls' := by
  refine ⟨(good_add I.good e).1, ?_⟩
  unfold addP at e
  split at e
  · cases e
  rename_i hn
  split at e
  · cases e
  rename_i ha
  split at e
  · cases e
  rename_i C kids hh
  split at e
  · cases e
  split at e
  · cases e
  rename_i hlim
  cases e
  obtain ⟨c, a⟩ := homeN hh I.all
  refine plugN c (insN ?_ a)
  rw [AllN, AllN, AllN]
  refine ⟨⟨⟨by omega, Cl.fresh z n w h (by omega) (by omega) (fun h0 => ?_)⟩, fun _ => rfl⟩, trivial, trivial⟩
  cases hq : areaP w h with
  | true => rfl
  | false => exact absurd ⟨h0, hq⟩ ha
theorem removeInv {R : Dat → Prop} {z : Int} {ls ls' : List Lay} {id : Int} (I : Inv R z ls) (e : removeP ls id = .ok ls') : Inv R z ls' := by
  refine ⟨good_remove I.good e, ?_⟩
  unfold removeP at e
  split at e
  · cases e
  rename_i r hr
  cases e
  obtain ⟨c, a⟩ := fndN hr I.all
  rw [allN_append, AllN] at a
  exact plugN c (allN_append.2 ⟨a.1, a.2.2.2⟩)
theorem moveInv {R : Dat → Prop} {z : Int} {ls ls' : List Lay} {id to at_ : Int} (I : Inv R z ls) (e : moveP ls id to at_ = .ok ls') : Inv R z ls' := by
  refine ⟨(good_move I.good e).1, ?_⟩
  unfold moveP at e
  split at e
  · cases e
  rename_i r hr
  split at e
  · cases e
  rename_i C kids hh
  generalize ((kids.length : Int) - (if pidOf r.C = pidOf C then 1 else 0)) = room at e
  split at e
  · cases e
  split at e
  · cases e
  split at e
  · cases e
  rename_i hdeep
  split at e
  · cases e
  rename_i C' kids' hh'
  cases e
  obtain ⟨c, a⟩ := fndN hr I.all
  rw [allN_append, AllN] at a
  obtain ⟨a1, ⟨⟨a2, a2'⟩, a3⟩, a4, a5⟩ := a
  have rest : AllN (Deep64 R) 0 (plugP r.C (r.pre ++ r.post)) := plugN c (allN_append.2 ⟨a1, a5⟩)
  obtain ⟨c', k'⟩ := homeN hh' rest
  have hd := home_depth I.good hr hh hh'
  refine plugN c' (insN ?_ k')
  rw [AllN, AllN]
  have hp := height_pos r.C.length r.kids
  exact ⟨⟨⟨by omega, a2'⟩, a3⟩, shiftN _ _ _ _ (Nat.le_refl _) a4 (fun m hm => by have := dps_height (k := r.C.length) m hm; omega), trivial⟩
/-- No edit breaks it. -/
theorem doP_inv {R : Dat → Prop} {x y z : Int} {ls ls' : List Lay} {e : PEd} (Cl : Closed x y R) (I : Inv R z ls) (h : doP x y z ls e = .ok ls') : Inv R (nextZ z e) ls' := by
  unfold doP at h
  unfold nextZ
  by_cases h1 : e.kind = 1
  · rw [if_pos h1] at h ⊢
    exact addInv Cl I h
  rw [if_neg h1] at h ⊢
  by_cases h2 : e.kind = 2
  · rw [if_pos h2] at h
    exact removeInv I h
  rw [if_neg h2] at h
  by_cases h3 : e.kind = 3
  · rw [if_pos h3] at h
    exact moveInv I h
  rw [if_neg h3] at h
  by_cases h4 : e.kind = 4
  · rw [if_pos h4] at h
    unfold paintE paintP at h
    split at h
    · cases h
    split at h
    · cases h
    rename_i r hr
    split at h
    · rename_i hk
      split at h
      · cases h
      rename_i hf
      split at h
      · cases h
      cases h
      exact turnInv I hr rfl rfl (fun u => Cl.paint _ e u hk (by simpa using hf))
    · cases h
  rw [if_neg h4] at h
  by_cases h5 : e.kind = 5
  · rw [if_pos h5] at h
    unfold lookP at h
    split at h
    · cases h
    rename_i r hr
    split at h
    · cases h
    rename_i hu
    split at h
    · cases h
    rename_i hm
    cases h
    have hu' : uptoB e.n 255 = true ∧ uptoB e.m 11 = true := by
      rw [← Bool.and_eq_true]
      simpa using hu
    exact turnInv I hr rfl rfl (fun u => Cl.look _ _ _ u hu'.1 hu'.2 (fun hq => hm (by simp [hq.1, hq.2])))
  rw [if_neg h5] at h
  by_cases h6 : e.kind = 6
  · rw [if_pos h6] at h
    unfold hideP at h
    split at h
    · cases h
    rename_i r hr
    split at h
    · cases h
    cases h
    exact turnInv I hr rfl rfl (fun u => Cl.hide _ _ u)
  rw [if_neg h6] at h
  by_cases h7 : e.kind = 7
  · rw [if_pos h7] at h
    unfold maskP at h
    split at h
    · cases h
    rename_i r hr
    split at h
    · cases h
    split at h
    · cases h
      exact turnInv I hr rfl rfl (fun u => Cl.unmask _ u)
    split at h
    · cases h
    cases h
    exact turnInv I hr rfl rfl (fun u => Cl.mask _ _ _ u)
  rw [if_neg h7] at h
  by_cases h8 : e.kind = 8
  · rw [if_pos h8] at h
    unfold placeP at h
    split at h
    · cases h
    split at h
    · cases h
    rename_i r hr
    split at h
    · rename_i hk
      split at h
      · cases h
      split at h
      · cases h
      rename_i hb
      cases h
      exact turnInv I hr rfl rfl (fun u => Cl.place _ e _ u hk (by simpa using hb))
    · cases h
  rw [if_neg h8] at h
  by_cases h9 : e.kind = 9
  · rw [if_pos h9] at h
    unfold adjustP at h
    split at h
    · cases h
    split at h
    · cases h
    rename_i r hr
    split at h
    · rename_i hk
      split at h
      · cases h
      rename_i ht
      cases h
      exact turnInv I hr rfl rfl (fun u => Cl.adjust _ _ _ u hk (by simpa using ht))
    · cases h
  rw [if_neg h9] at h
  cases h
/-- The rasters' widths are such a condition. -/
def RW (d : Dat) : Prop := d.kind = 0 → 0 ≤ d.w ∧ d.w ≤ 32768
theorem closed_rw (x y : Int) : Closed x y RW where
  fresh := fun z n w h h0 h2 ha => by
    unfold RW freshD
    split
    · rename_i hn
      intro _
      have := ha hn
      simp only [areaP, sideP, Bool.and_eq_true, decide_eq_true_eq] at this
      exact ⟨by show 0 ≤ w; omega, this.1.2⟩
    · rename_i hn
      intro hk
      exact absurd hk hn
  paint := fun _ _ h _ _ => h
  look := fun _ _ _ h _ _ _ => h
  hide := fun _ _ h => h
  unmask := fun _ h => h
  mask := fun _ _ _ h => h
  place := fun _ _ _ h _ _ => h
  adjust := fun _ _ _ h _ _ => h
theorem allN_dats {P : Nat → Dat → Prop} {Q : Dat → Prop} (f : ∀ m d, P m d → Q d) : ∀ (k n : Nat) (ls : List Lay), SizeOf.sizeOf ls ≤ k → AllN P n ls → ∀ d ∈ dats ls, Q d
  | 0, n, ls, h, _, _, _ => by cases ls <;> simp at h
  | k + 1, n, [], h, _, d, hd => by rw [dats] at hd; cases hd
  | k + 1, n, .mk d0 kids :: ls, h, A, d, hd => by
    simp only [List.cons.sizeOf_spec, Lay.mk.sizeOf_spec] at h
    rw [AllN] at A
    rw [dats] at hd
    rcases List.mem_cons.1 hd with rfl | hd
    · exact f _ _ A.1.1
    rcases List.mem_append.1 hd with hd | hd
    · exact allN_dats f k (n + 1) kids (by omega) A.2.1 d hd
    · exact allN_dats f k n ls (by omega) A.2.2 d hd
theorem Inv.wok {z : Int} {ls : List Lay} (I : Inv RW z ls) : WOk ls := allN_dats (fun _ _ h => h.2) _ 0 ls (Nat.le_refl _) I.all
theorem inv0 (R : Dat → Prop) : Inv R 1 [] := ⟨⟨by simp [dats], fun d hd => (by rw [dats] at hd; cases hd), by simp [pcnt, dats], by omega⟩, by rw [AllN]; trivial⟩
end Go.Proofs.Ytfcpbpfemmdklaa

/- A list of edits that came in, read cell by cell. (printed by genZZF.py) -/
namespace Go.Proofs.Ytfcpbpfemmdklaa
open Go.ChangeShapes Go.WideShapes Go.ChangeAt Go.RowKit Go.Lib
set_option linter.unusedSimpArgs false
set_option linter.unusedVariables false

theorem bounds64 {n : Int} (h : (Lit.int .i64 n).wf = true) : -9223372036854775808 ≤ n ∧ n ≤ 9223372036854775807 := by
  simp [Lit.wf, IntKind.min, IntKind.max, IntKind.signed, IntKind.bits] at h
  omega
/-- A row of whole numbers that came in, of any length. -/
def RdAny (w : World) (q : Hd) (l : List Int) : Prop := (Cells 1 w q (ints l) ∨ (q.n = 0 ∧ l = [] ∧ ∃ x, q.a = some x)) ∧ In64 l ∧ q.n ≤ q.c ∧ l.length = q.n
theorem RdAny.rdw {w : World} {q : Hd} {l : List Int} (h : RdAny w q l) (hn : q.n ≤ 536870912) : RdW w q l := by
  rcases h.1 with c | c
  · exact .inl ⟨c, hn⟩
  · exact .inr c
theorem RdAny.later {w w' : World} {q : Hd} {l : List Int} (h : RdAny w q l) (k : Keeps none' w w') : RdAny w' q l := by
  refine ⟨?_, h.2⟩
  rcases h.1 with c | c
  · exact .inl (c.later k)
  · exact .inr c
theorem head_spot {w : World} {x : Addr} {v : Value} (h : w.cell? (x.add 0) = some v) : ∃ b off, x = ⟨b, off, none⟩ := by
  obtain ⟨b, off, spot⟩ := x
  have h1 := World.cell?_spot (by simpa [Addr.add] using h)
  simp only at h1
  exact ⟨b, off, by rw [h1]⟩
theorem any_of_trod {H : Type} {enc : TypeId × Value → H} {w : World} {fuel : Nat} {v : Value} {x : DataW H × List MemPlace}
    (h : DataW.trod enc Try.prog w 0 (fun _ => true) true fuel 30 [v] = some x) : ∃ (q : Hd) (zs : List Int), v = .slice q.a q.n q.c ∧ RdAny w q zs := by
  rcases open_ints Try.underlying30 Try.underlying3 (by kernel_rfl) h with ⟨hcs, _⟩ | ⟨x, len, cp, zs, hcs, _, hl, hm, hz, _, hcell, hwz⟩
  · have hv : v = .slice none 0 0 := (List.cons.inj hcs).1
    exact ⟨Hd.nil, [], hv, .inl (Cells.nil 1 w), fun z hz => by simp at hz, Nat.le_refl _, rfl⟩
  · have hv : v = .slice (some x) len cp := (List.cons.inj hcs).1
    have hz2 : zs.length = cp := by simpa using hz
    refine ⟨⟨some x, len, cp⟩, zs.take len, hv, ?_, fun z hz3 => bounds64 (hwz z (List.mem_of_mem_take hz3)), hl, by rw [List.length_take]; show min len zs.length = len; omega⟩
    by_cases h0 : len = 0
    · subst h0
      exact .inr ⟨rfl, by simp, x, rfl⟩
    · refine .inl ⟨by simp [ints]; omega, hl, fun e => (by cases e), ints_one _, fun y hy => ?_⟩
      cases hy
      obtain ⟨b, off, rfl⟩ := head_spot (hcell 0 (by omega))
      have hb := World.block_lt_of_cell? w _ (hcell 0 (by omega))
      refine ⟨rfl, by simpa [Addr.add] using hb, fun j u hj => ?_⟩
      unfold ints at hj
      rw [List.getElem?_map, List.getElem?_take] at hj
      split at hj
      · have hj2 : j < zs.length := by omega
        have hc := hcell j hj2
        rw [add_spot, List.getD_eq_getElem?_getD] at hc
        rw [List.getElem?_eq_getElem hj2] at hj hc
        simp at hj hc
        rw [← hj]
        exact hc
      · cases hj
theorem map_of_trod {H : Type} {enc : TypeId × Value → H} {W : World} {fuel : Nat} {c0 c1 c2 c3 c4 c5 : Value} {x : DataW H × List MemPlace}
    (hf : DataW.trod enc Try.prog W 0 (fun _ => true) true fuel 33 [c0, c1, c2, c3, c4, c5] = some x) : ∃ a b c d e f : Int, c0 = .int .i64 a ∧ c1 = .int .i64 b ∧ c2 = .int .i64 c ∧ c3 = .int .i64 d ∧ c4 = .int .i64 e ∧ c5 = .int .i64 f := by
  obtain ⟨xs, m1, hx, hx1, hlen, hn, hel⟩ := DataW.trod_array Try.underlying33 hf
  rw [show Try.prog.cellsOf 3 = 1 by kernel_rfl] at hel
  have key : ∀ i, i < 6 → ∀ c, [c0, c1, c2, c3, c4, c5][i]? = some c → ∃ k : Int, c = .int .i64 k := by
    intro i hi c hc
    have h0 := hel i hi
    have hxi : i < xs.length := by omega
    rw [List.getElem?_eq_getElem hxi] at h0
    obtain ⟨k, e0, _⟩ := DataW.trod_int Try.underlying3 h0
    refine ⟨k, ?_⟩
    have e1 : ((([c0, c1, c2, c3, c4, c5] : List Value).drop (i * 1)).take 1)[0]? = some (.int .i64 k) := by
      rw [show ((([c0, c1, c2, c3, c4, c5] : List Value).drop (i * 1)).take 1) = _ from e0]; rfl
    rw [List.getElem?_take_of_lt (by omega), List.getElem?_drop, Nat.add_zero, Nat.mul_one, hc] at e1
    exact Option.some.inj e1
  obtain ⟨a, rfl⟩ := key 0 (by omega) _ rfl
  obtain ⟨b, rfl⟩ := key 1 (by omega) _ rfl
  obtain ⟨c, rfl⟩ := key 2 (by omega) _ rfl
  obtain ⟨d, rfl⟩ := key 3 (by omega) _ rfl
  obtain ⟨e, rfl⟩ := key 4 (by omega) _ rfl
  obtain ⟨f, rfl⟩ := key 5 (by omega) _ rfl
  exact ⟨a, b, c, d, e, f, rfl, rfl, rfl, rfl, rfl, rfl⟩
/-- An edit that came in, with the headers of its lists. -/
structure EdIn (w : World) (e : PEd) (p s q : Hd) : Prop where
  pix : RdAny w p e.p
  shp : La.Pts w s.a s.n (e.shape.map ptOf)
  prm : RdAny w q e.pars
theorem EdIn.later {w w' : World} {e : PEd} {p s q : Hd} (h : EdIn w e p s q) (k : Keeps none' w w') : EdIn w' e p s q :=
  ⟨h.pix.later k, h.shp.later (fun i hi => k.later i hi), h.prm.later k⟩
/-- Small enough for a play. -/
def SmallE (p s q : Hd) : Prop := p.n ≤ 600 ∧ s.n ≤ 300 ∧ q.n ≤ 100
theorem EdIn.ok {w : World} {e : PEd} {p s q : Hd} (h : EdIn w e p s q) (b : SmallE p s q) : EdOk w e p s q :=
  ⟨h.pix.rdw (by have := b.1; omega), h.shp, by have := b.2.1; omega, h.prm.rdw (by have := b.2.2; omega), h.prm.2.1, by have := b.2.2; omega, h.prm.2.2.1⟩
/-- One edit with its headers. -/
structure EdH where
  e : PEd
  p : Hd
  s : Hd
  q : Hd
def EdH.cells (x : EdH) : List Value := edCells x.e x.p x.s x.q
theorem EdH.len (x : EdH) : x.cells.length = 19 := by simp [EdH.cells, edCells]
/-- A list of edits that came in. -/
def Eds (w : World) (a : Option Addr) (n : Nat) (xs : List EdH) : Prop :=
  xs.length = n ∧ ∀ (i : Nat) (x : EdH), xs[i]? = some x → ∃ b off, a = some ⟨b, off, none⟩ ∧ w.rangeAt b (off + i * 19) x.cells ∧ EdIn w x.e x.p x.s x.q
theorem cells35 : Try.prog.cellsOf 35 = 19 := by kernel_rfl
set_option maxRecDepth 100000 in
theorem eds_each {H : Type} {enc : TypeId × Value → H} {w : World} {fuel : Nat} {a : Option Addr} {len cp : Nat} {x : DataW H × List MemPlace}
    (h : DataW.trod enc Try.prog w 0 (fun _ => true) true fuel 37 [.slice a len cp] = some x) : len ≤ cp ∧ cp ≤ maxLen ∧ ∀ i, i < len → ∃ (x : EdH) (b off : Nat), a = some ⟨b, off, none⟩ ∧ w.rangeAt b (off + i * 19) x.cells ∧ EdIn w x.e x.p x.s x.q := by
  rcases Deep.open_slice Try.underlying37 h with ⟨hcs, _⟩ | ⟨ad, l, c, m, n, D, Pl, hcs, _, hl, hm, hmm, _, hi⟩
  · simp only [List.cons.injEq, and_true, Value.slice.injEq] at hcs
    obtain ⟨rfl, rfl, rfl⟩ := hcs
    exact ⟨Nat.le_refl _, Nat.zero_le _, fun i hi => by omega⟩
  · simp only [List.cons.injEq, and_true, Value.slice.injEq] at hcs
    obtain ⟨rfl, rfl, rfl⟩ := hcs
    refine ⟨hl, hm, fun i hlt => ?_⟩
    obtain ⟨b, off, spot⟩ := ad
    have hsp : spot = none := by
      obtain ⟨cs, hc, _⟩ := hi 0 (by rw [hmm, if_pos rfl]; omega)
      rw [cells35, Nat.zero_mul] at hc
      obtain ⟨_, hcl, hat⟩ := World.cells?_some hc
      have h1 := World.cell?_spot ((hat 0 (by omega)).trans (List.getElem?_eq_getElem (by omega)))
      simpa [Addr.add] using h1
    subst hsp
    obtain ⟨cs, hc, ht⟩ := hi i (by rw [hmm, if_pos rfl]; omega)
    rw [cells35] at hc
    obtain ⟨ys, n', _, _, _, hyl, hf⟩ := DataW.trod_struct Try.underlying35 ht
    obtain ⟨_, hcl, hat⟩ := World.cells?_some hc
    match cs, hcl with
    | [v0, v1, v2, v3, v4, v5, v6, v7, v8, v9, v10, v11, v12, v13, v14, v15, v16, v17, v18], _ =>
      match ys, hyl with
      | [y0, y1, y2, y3, y4, y5, y6, y7, y8, y9, y10, y11, y12, y13], _ =>
        have f0 : DataW.trod enc Try.prog w 0 (fun _ => true) true n' 3 (List.take (Try.prog.cellsOf 3) [v0, v1, v2, v3, v4, v5, v6, v7, v8, v9, v10, v11, v12, v13, v14, v15, v16, v17, v18]) = some y0 := hf 0 _ rfl
        rw [show Try.prog.cellsOf 3 = 1 by kernel_rfl] at f0
        obtain ⟨z0, e0, _, r0⟩ := DataW.trod_int Try.underlying3 f0
        obtain rfl : v0 = _ := (List.cons.inj (show [v0] = [_] from e0)).1
        have f1 : DataW.trod enc Try.prog w 0 (fun _ => true) true n' 3 (List.take (Try.prog.cellsOf 3) [v1, v2, v3, v4, v5, v6, v7, v8, v9, v10, v11, v12, v13, v14, v15, v16, v17, v18]) = some y1 := hf 1 _ rfl
        rw [show Try.prog.cellsOf 3 = 1 by kernel_rfl] at f1
        obtain ⟨z1, e1, _, r1⟩ := DataW.trod_int Try.underlying3 f1
        obtain rfl : v1 = _ := (List.cons.inj (show [v1] = [_] from e1)).1
        have f2 : DataW.trod enc Try.prog w 0 (fun _ => true) true n' 3 (List.take (Try.prog.cellsOf 3) [v2, v3, v4, v5, v6, v7, v8, v9, v10, v11, v12, v13, v14, v15, v16, v17, v18]) = some y2 := hf 2 _ rfl
        rw [show Try.prog.cellsOf 3 = 1 by kernel_rfl] at f2
        obtain ⟨z2, e2, _, r2⟩ := DataW.trod_int Try.underlying3 f2
        obtain rfl : v2 = _ := (List.cons.inj (show [v2] = [_] from e2)).1
        have f3 : DataW.trod enc Try.prog w 0 (fun _ => true) true n' 3 (List.take (Try.prog.cellsOf 3) [v3, v4, v5, v6, v7, v8, v9, v10, v11, v12, v13, v14, v15, v16, v17, v18]) = some y3 := hf 3 _ rfl
        rw [show Try.prog.cellsOf 3 = 1 by kernel_rfl] at f3
        obtain ⟨z3, e3, _, r3⟩ := DataW.trod_int Try.underlying3 f3
        obtain rfl : v3 = _ := (List.cons.inj (show [v3] = [_] from e3)).1
        have f4 : DataW.trod enc Try.prog w 0 (fun _ => true) true n' 3 (List.take (Try.prog.cellsOf 3) [v4, v5, v6, v7, v8, v9, v10, v11, v12, v13, v14, v15, v16, v17, v18]) = some y4 := hf 4 _ rfl
        rw [show Try.prog.cellsOf 3 = 1 by kernel_rfl] at f4
        obtain ⟨z4, e4, _, r4⟩ := DataW.trod_int Try.underlying3 f4
        obtain rfl : v4 = _ := (List.cons.inj (show [v4] = [_] from e4)).1
        have f5 : DataW.trod enc Try.prog w 0 (fun _ => true) true n' 3 (List.take (Try.prog.cellsOf 3) [v5, v6, v7, v8, v9, v10, v11, v12, v13, v14, v15, v16, v17, v18]) = some y5 := hf 5 _ rfl
        rw [show Try.prog.cellsOf 3 = 1 by kernel_rfl] at f5
        obtain ⟨z5, e5, _, r5⟩ := DataW.trod_int Try.underlying3 f5
        obtain rfl : v5 = _ := (List.cons.inj (show [v5] = [_] from e5)).1
        have f6 : DataW.trod enc Try.prog w 0 (fun _ => true) true n' 3 (List.take (Try.prog.cellsOf 3) [v6, v7, v8, v9, v10, v11, v12, v13, v14, v15, v16, v17, v18]) = some y6 := hf 6 _ rfl
        rw [show Try.prog.cellsOf 3 = 1 by kernel_rfl] at f6
        obtain ⟨z6, e6, _, r6⟩ := DataW.trod_int Try.underlying3 f6
        obtain rfl : v6 = _ := (List.cons.inj (show [v6] = [_] from e6)).1
        have f7 : DataW.trod enc Try.prog w 0 (fun _ => true) true n' 3 (List.take (Try.prog.cellsOf 3) [v7, v8, v9, v10, v11, v12, v13, v14, v15, v16, v17, v18]) = some y7 := hf 7 _ rfl
        rw [show Try.prog.cellsOf 3 = 1 by kernel_rfl] at f7
        obtain ⟨z7, e7, _, r7⟩ := DataW.trod_int Try.underlying3 f7
        obtain rfl : v7 = _ := (List.cons.inj (show [v7] = [_] from e7)).1
        have f8 : DataW.trod enc Try.prog w 0 (fun _ => true) true n' 3 (List.take (Try.prog.cellsOf 3) [v8, v9, v10, v11, v12, v13, v14, v15, v16, v17, v18]) = some y8 := hf 8 _ rfl
        rw [show Try.prog.cellsOf 3 = 1 by kernel_rfl] at f8
        obtain ⟨z8, e8, _, r8⟩ := DataW.trod_int Try.underlying3 f8
        obtain rfl : v8 = _ := (List.cons.inj (show [v8] = [_] from e8)).1
        have f9 : DataW.trod enc Try.prog w 0 (fun _ => true) true n' 3 (List.take (Try.prog.cellsOf 3) [v9, v10, v11, v12, v13, v14, v15, v16, v17, v18]) = some y9 := hf 9 _ rfl
        rw [show Try.prog.cellsOf 3 = 1 by kernel_rfl] at f9
        obtain ⟨z9, e9, _, r9⟩ := DataW.trod_int Try.underlying3 f9
        obtain rfl : v9 = _ := (List.cons.inj (show [v9] = [_] from e9)).1
        have f10 : DataW.trod enc Try.prog w 0 (fun _ => true) true n' 30 (List.take (Try.prog.cellsOf 30) [v10, v11, v12, v13, v14, v15, v16, v17, v18]) = some y10 := hf 10 _ rfl
        rw [show Try.prog.cellsOf 30 = 1 by kernel_rfl] at f10
        obtain ⟨hp, zp, rfl, RP⟩ := any_of_trod (show DataW.trod enc Try.prog w 0 (fun _ => true) true n' 30 [v10] = some y10 from f10)
        have f11 : DataW.trod enc Try.prog w 0 (fun _ => true) true n' 31 (List.take (Try.prog.cellsOf 31) [v11, v12, v13, v14, v15, v16, v17, v18]) = some y11 := hf 11 _ rfl
        rw [show Try.prog.cellsOf 31 = 1 by kernel_rfl] at f11
        have hs11 : ∃ sa sn sc, v11 = .slice sa sn sc := by
          rcases Deep.open_slice Try.underlying31 (show DataW.trod enc Try.prog w 0 (fun _ => true) true n' 31 [v11] = some y11 from f11) with ⟨hcs, _⟩ | ⟨ad, l, c, m, n, D, Pl, hcs, _⟩
          · exact ⟨none, 0, 0, (List.cons.inj hcs).1⟩
          · exact ⟨_, _, _, (List.cons.inj hcs).1⟩
        obtain ⟨sa, sn, sc, rfl⟩ := hs11
        obtain ⟨zs, RS, _⟩ := La.pts_of_trod (show DataW.trod enc Try.prog w 0 (fun _ => true) true n' 31 [.slice sa sn sc] = some y11 from f11)
        have f12 : DataW.trod enc Try.prog w 0 (fun _ => true) true n' 33 (List.take (Try.prog.cellsOf 33) [v12, v13, v14, v15, v16, v17, v18]) = some y12 := hf 12 _ rfl
        rw [show Try.prog.cellsOf 33 = 6 by kernel_rfl] at f12
        obtain ⟨ma, mb, mc, md, me, mf, rfl, rfl, rfl, rfl, rfl, rfl⟩ := map_of_trod (show DataW.trod enc Try.prog w 0 (fun _ => true) true n' 33 [v12, v13, v14, v15, v16, v17] = some y12 from f12)
        have f13 : DataW.trod enc Try.prog w 0 (fun _ => true) true n' 30 (List.take (Try.prog.cellsOf 30) [v18]) = some y13 := hf 13 _ rfl
        rw [show Try.prog.cellsOf 30 = 1 by kernel_rfl] at f13
        obtain ⟨hq, zq, rfl, RQ⟩ := any_of_trod (show DataW.trod enc Try.prog w 0 (fun _ => true) true n' 30 [v18] = some y13 from f13)
        refine ⟨⟨⟨z0, z1, z2, z3, z4, z5, z6, z7, z8, z9, zp, zs.map (fun t => (t.X, t.Y)), ma, mb, mc, md, me, mf, zq⟩, hp, ⟨sa, sn, sc⟩, hq⟩, b, off, rfl, fun j u hj => ?_, ⟨RP, ?_, RQ⟩⟩
        · have hj19 : j < 19 := by
            have h9 := (List.getElem?_eq_some_iff.1 hj).1
            rw [EdH.len] at h9
            exact h9
          have h9 := hat j hj19
          rw [La.add_none] at h9
          exact h9.trans hj
        · have e9 : (zs.map (fun t => (t.X, t.Y))).map ptOf = zs := by
            rw [List.map_map]
            exact (List.map_congr_left (fun t _ => rfl)).trans (List.map_id _)
          show La.Pts w sa sn ((zs.map (fun t => (t.X, t.Y))).map ptOf)
          rw [e9]
          exact RS
theorem eds_of_trod {H : Type} {enc : TypeId × Value → H} {w : World} {fuel : Nat} {a : Option Addr} {len cp : Nat} {x : DataW H × List MemPlace}
    (h : DataW.trod enc Try.prog w 0 (fun _ => true) true fuel 37 [.slice a len cp] = some x) : (len ≤ cp ∧ cp ≤ maxLen) ∧ ∃ xs, Eds w a len xs := by
  obtain ⟨h1, h2, h3⟩ := eds_each h
  refine ⟨⟨h1, h2⟩, ?_⟩
  have h4 : ∀ i : Nat, ∃ x : EdH, i < len → ∃ b off, a = some ⟨b, off, none⟩ ∧ w.rangeAt b (off + i * 19) x.cells ∧ EdIn w x.e x.p x.s x.q := by
    intro i
    by_cases hi : i < len
    · obtain ⟨x, hx⟩ := h3 i hi
      exact ⟨x, fun _ => hx⟩
    · exact ⟨⟨⟨0, 0, 0, 0, 0, 0, 0, 0, 0, 0, [], [], 0, 0, 0, 0, 0, 0, []⟩, Hd.nil, Hd.nil, Hd.nil⟩, fun h => absurd h hi⟩
  obtain ⟨f, hf⟩ := Classical.axiomOfChoice h4
  refine ⟨(List.range len).map f, by simp, fun i x hx => ?_⟩
  rw [List.getElem?_map] at hx
  by_cases hi : i < len
  · rw [List.getElem?_range hi] at hx
    simp only [Option.map_some, Option.some.injEq] at hx
    subst hx
    exact hf i hi
  · have : (List.range len)[i]? = none := by simp; omega
    rw [this] at hx
    cases hx
end Go.Proofs.Ytfcpbpfemmdklaa

/- Edits that a play goes through with (10, 20). (printed by genZZG.py) -/
namespace Go.Proofs.Ytfcpbpfemmdklaa
open Go.RowKit Go.Lib
set_option linter.unusedSimpArgs false
set_option linter.unusedVariables false

/-- A bool, whichever; the world as it was. -/
def SomeB (w : World) (en : Ending) (w' : World) : Prop := ∃ b : Bool, en = .returned (.bool b) ∧ w = w'
set_option maxRecDepth 100000 in
set_option maxHeartbeats 800000 in
theorem sized_any (x y : Int) (w : World) : Calls Try.prog 20 #[.int .i64 x, .int .i64 y] w (SomeB w) := by
  by_cases t1 : x ≥ 1
  · have d1 : decide (x ≥ 1) = true := by simpa using t1
    by_cases t2 : y ≥ 1
    · have d2 : decide (y ≥ 1) = true := by simpa using t2
      by_cases t3 : x ≤ 32768
      · have d3 : decide (x ≤ 32768) = true := by simpa using t3
        by_cases t4 : y ≤ 32768
        · have d4 : decide (y ≤ 32768) = true := by simpa using t4
          clear t1 t2 t3 t4
          obtain ⟨m, hm⟩ : ∃ m, wrap64 (x * y) = m := ⟨_, rfl⟩
          go_enter Try.func20, Try.ntmps20
          go_wp2_with fail
          go_ret
          exact ⟨_, rfl, rfl⟩
        · have d4 : decide (y ≤ 32768) = false := by simpa using t4
          clear t1 t2 t3 t4
          go_enter Try.func20, Try.ntmps20
          go_wp2_with fail
          go_ret
          exact ⟨_, rfl, rfl⟩
      · have d3 : decide (x ≤ 32768) = false := by simpa using t3
        clear t1 t2 t3
        go_enter Try.func20, Try.ntmps20
        go_wp2_with fail
        go_ret
        exact ⟨_, rfl, rfl⟩
    · have d2 : decide (y ≥ 1) = false := by simpa using t2
      clear t1 t2
      go_enter Try.func20, Try.ntmps20
      go_wp2_with fail
      go_ret
      exact ⟨_, rfl, rfl⟩
  · have d1 : decide (x ≥ 1) = false := by simpa using t1
    clear t1
    go_enter Try.func20, Try.ntmps20
    go_wp2_with fail
    go_ret
    exact ⟨_, rfl, rfl⟩
/-- What Small tells of edits. -/
def SmallSays (n most : Nat) (xs : List EdH) (w : World) (en : Ending) (w' : World) : Prop :=
  ∃ b : Bool, en = .returned (.bool b) ∧ (b = true → n ≤ most ∧ ∀ x ∈ xs, SmallE x.p x.s x.q) ∧ Keeps none' w w'
theorem ed_row35 (x : EdH) : (Try.prog.info? 35).map (·.size) = some x.cells.length ∧ (Try.prog.info? 35).map (·.size) = some x.cells.toArray.size ∧ 19 = x.cells.toArray.size ∧ x.cells.toArray.all (·.oneCell') = true := by
  obtain ⟨e, p, s, q⟩ := x
  have h := ed_row e p s q
  exact ⟨by rw [EdH.len]; exact size35, h.1, h.2.1, h.2.2⟩
theorem small_zero (a : Option Addr) (c : Nat) (most : Nat) (w : World) (hm : most ≤ 1000) : Calls Try.prog 10 #[.slice a 0 c, .int .i64 (most : Int)] w (SmallSays 0 most [] w) := by
  have d1 : decide ((0 : Int) > (most : Int)) = false := by simp
  have d2 : decide ((most : Int) < 0) = false := by simp
  clear hm
  go_enter Try.func10, Try.ntmps10
  go_wp2_with fail
  go_loopw [13] (fun s13 wr => s13 = .int .i64 0 ∧ Keeps none' w wr) (fun _ _ => 0)
  case atStart => exact ⟨rfl, Keeps.refl _ _⟩
  case round =>
    obtain ⟨rfl, hk⟩ := hrel
    have K := Lib.hid hk
    clear hk
    go_wp2_with fail
    go_ret
    exact ⟨true, rfl, fun _ => ⟨Nat.zero_le _, fun x hx => (by cases hx)⟩, K.out⟩
set_option maxRecDepth 100000 in
set_option maxHeartbeats 3200000 in
theorem small_some (b off n c : Nat) (most : Nat) (xs : List EdH) (w : World) (hm : most ≤ 1000) (hn : n ≤ most) (E : Eds w (some ⟨b, off, none⟩) n xs) : Calls Try.prog 10 #[.slice (some ⟨b, off, none⟩) n c, .int .i64 (most : Int)] w (SmallSays n most xs w) := by
  have d1 : decide ((n : Int) > (most : Int)) = false := by simp; omega
  have d2 : decide (most < n) = false := by simp; omega
  have HE := Lib.hid E
  have HM := Lib.hid (And.intro hm hn)
  clear E hm hn
  go_enter Try.func10, Try.ntmps10
  go_wp2_with fail
  clear d1 d2
  go_loopw [13] (fun s13 wr => ∃ i : Nat, i ≤ n ∧ s13 = .int .i64 i ∧ (∀ x ∈ xs.take i, SmallE x.p x.s x.q) ∧ Keeps none' w wr) (fun s13 _ => n - (intOf s13).toNat)
  case atStart => exact ⟨0, Nat.zero_le _, rfl, fun x hx => (by simp at hx), Keeps.refl _ _⟩
  case round =>
    obtain ⟨i, hi, rfl, ha, hk⟩ := hrel
    have HA := Lib.hid ha
    have K := Lib.hid hk
    clear ha hk
    by_cases hlt : i < n
    · have tk : decide ((i : Int) < (n : Int)) = true := by simp; omega
      have tk2 : decide (i < n) = true := by simp; omega
      obtain ⟨x, hx⟩ : ∃ x, xs[i]? = some x := ⟨_, List.getElem?_eq_getElem (by have := HE.out.1; omega)⟩
      obtain ⟨b', off', e0, hr, hin⟩ := HE.out.2 i x hx
      cases e0
      have RG := Lib.hid (show wr.rangeAt b (off + i * 19) x.cells from fun j u hj => K.out.cell (hr j u hj))
      have LF := Lib.hid (ed_row35 x)
      have HX := Lib.hid (take_more hx)
      have hb : (i : Int) < 1000 := by have := HM.out; omega
      have hii : (i : Int) < n := by omega
      have iw : wrap64 ((i : Int) + 1) = (i : Int) + 1 := wrap64_id _ (by omega) (by omega)
      clear hx hr hin
      go_upto_region 6 with (first
        | (refine wpList_load_mid rfl 35 _ rfl b (off + i * 19) rfl x.cells _ RG.out Try.underlying35 rfl LF.out.1 ?_)
        | (refine wpList_store_row rfl 35 _ _ rfl wr.heap.size x.cells.toArray rfl rfl 35 _ (heap_alloc_new _ _) LF.out.2.1 (by exact LF.out.2.2.1) LF.out.2.2.2 ?_))
      have EB := Lib.hid (show Eb ((wr.alloc (.cells #[.int .i64 0, .int .i64 0, .int .i64 0, .int .i64 0, .int .i64 0, .int .i64 0, .int .i64 0, .int .i64 0, .int .i64 0, .int .i64 0, .slice none 0 0, .slice none 0 0, .int .i64 0, .int .i64 0, .int .i64 0, .int .i64 0, .int .i64 0, .int .i64 0, .slice none 0 0] 35)).setRow wr.heap.size x.cells.toArray) wr.heap.size x.e x.p x.s x.q from setRow_heap _ _ _ _ _ _ (heap_alloc_new _ _))
      have K2 := Lib.hid (K.out.next (((Keeps.refl none' wr).alloc (.cells #[.int .i64 0, .int .i64 0, .int .i64 0, .int .i64 0, .int .i64 0, .int .i64 0, .int .i64 0, .int .i64 0, .int .i64 0, .int .i64 0, .slice none 0 0, .slice none 0 0, .int .i64 0, .int .i64 0, .int .i64 0, .int .i64 0, .int .i64 0, .int .i64 0, .slice none 0 0] 35)).setRow (Nat.le_refl _) x.cells.toArray))
      generalize (wr.alloc (.cells #[.int .i64 0, .int .i64 0, .int .i64 0, .int .i64 0, .int .i64 0, .int .i64 0, .int .i64 0, .int .i64 0, .int .i64 0, .int .i64 0, .slice none 0 0, .slice none 0 0, .int .i64 0, .int .i64 0, .int .i64 0, .int .i64 0, .int .i64 0, .int .i64 0, .slice none 0 0] 35)).setRow wr.heap.size x.cells.toArray = w2 at *
      obtain ⟨L, hL⟩ : ∃ L, L = wr.heap.size := ⟨_, rfl⟩
      rw [← hL] at EB
      rw [← hL]
      clear hL RG LF
      have e0 := EB.out.c0
      have e4 := EB.out.c4
      have e8 := EB.out.c8
      have e9 := EB.out.c9
      have e10 := EB.out.c10
      have e11 := EB.out.c11
      have e18 := EB.out.c18
      have SZ := Lib.hid (fun w' => sized_any x.e.w x.e.h w')
      unfold SomeB at SZ
      simp only [Act.put]
      go_cut [57] from 17 (fun s57 w' => ∃ v : Bool, s57 = .bool v ∧ (v = false → SmallE x.p x.s x.q) ∧ Keeps none' w2 w')
      case first =>
        obtain ⟨e, p, s, q⟩ := x
        by_cases t1 : 600 < p.n
        · have d1 : decide ((p.n : Int) > 600) = true := by simp; omega
          have d2 : decide (600 < p.n) = true := by simp; omega
          clear t1
          go_wp2_with fail
          go_meet
          case rel => exact ⟨true, rfl, fun h => (by cases h), Keeps.refl _ _⟩
        by_cases t2 : 300 < s.n
        · have d1 : decide ((p.n : Int) > 600) = false := by simp; omega
          have d2 : decide (600 < p.n) = false := by simp; omega
          have d3 : decide ((s.n : Int) > 300) = true := by simp; omega
          have d4 : decide (300 < s.n) = true := by simp; omega
          clear t1 t2
          go_wp2_with fail
          go_meet
          case rel => exact ⟨true, rfl, fun h => (by cases h), Keeps.refl _ _⟩
        by_cases t3 : 100 < q.n
        · have d1 : decide ((p.n : Int) > 600) = false := by simp; omega
          have d2 : decide (600 < p.n) = false := by simp; omega
          have d3 : decide ((s.n : Int) > 300) = false := by simp; omega
          have d4 : decide (300 < s.n) = false := by simp; omega
          have d5 : decide ((q.n : Int) > 100) = true := by simp; omega
          have d6 : decide (100 < q.n) = true := by simp; omega
          clear t1 t2 t3
          go_wp2_with fail
          go_meet
          case rel => exact ⟨true, rfl, fun h => (by cases h), Keeps.refl _ _⟩
        have SM := Lib.hid (show SmallE p s q from ⟨by omega, by omega, by omega⟩)
        have d1 : decide ((p.n : Int) > 600) = false := by simp; omega
        have d2 : decide (600 < p.n) = false := by simp; omega
        have d3 : decide ((s.n : Int) > 300) = false := by simp; omega
        have d4 : decide (300 < s.n) = false := by simp; omega
        have d5 : decide ((q.n : Int) > 100) = false := by simp; omega
        have d6 : decide (100 < q.n) = false := by simp; omega
        clear t1 t2 t3
        by_cases t4 : e.kind = 1
        · have g1 : (e.kind == 1) = true := by simp [t4]
          by_cases t5 : e.n = 0
          · have g2 : (e.n == 0) = true := by simp [t5]
            clear t4 t5
            obtain ⟨m, hm⟩ : ∃ m, wrap64 (e.w * e.h) = m := ⟨_, rfl⟩
            go_wp2_with ((with_reducible refine (SZ.out _).mono ?_); rintro en w3 ⟨v, rfl, hw⟩; replace hw := hw.symm; subst hw; cases v)
            all_goals
              go_meet
              case rel => exact ⟨_, rfl, fun _ => SM.out, Keeps.refl _ _⟩
          · have g2 : (e.n == 0) = false := by simp [t5]
            clear t4 t5
            go_wp2_with fail
            go_meet
            case rel => exact ⟨_, rfl, fun _ => SM.out, Keeps.refl _ _⟩
        · have g1 : (e.kind == 1) = false := by simp [t4]
          clear t4
          go_wp2_with fail
          go_meet
          case rel => exact ⟨_, rfl, fun _ => SM.out, Keeps.refl _ _⟩
      case rest =>
      obtain ⟨v, rfl, hv, hk⟩ := hcut
      have K3 := Lib.hid (K2.out.next hk)
      have HV := Lib.hid hv
      clear hv hk e0 e4 e8 e9 e10 e11 e18
      cases v with
      | true =>
        go_wp2_with fail
        go_ret
        exact ⟨false, rfl, fun h => (by cases h), K3.out⟩
      | false =>
        have HB := Lib.hid (show ∀ y ∈ xs.take (i + 1), SmallE y.p y.s y.q from fun y hy => by
          rw [HX.out] at hy
          rcases List.mem_append.1 hy with hy | hy
          · exact HA.out y hy
          · rw [List.mem_singleton.1 hy]; exact HV.out rfl)
        go_wp2_with fail
        go_roundw
        case rel => exact ⟨i + 1, Nat.succ_le_of_lt hlt, by go_num, HB.out, K3.out⟩
        case measure => exact meas_lt hlt rfl
    · obtain rfl : i = n := by omega
      have tk : decide ((i : Int) < (i : Int)) = false := by simp
      have HB := Lib.hid (show ∀ x ∈ xs, SmallE x.p x.s x.q from fun x hx => HA.out x (by rw [List.take_of_length_le (by have := HE.out.1; omega)]; exact hx))
      go_wp2_with fail
      go_ret
      exact ⟨true, rfl, fun _ => ⟨HM.out.2, HB.out⟩, K.out⟩
theorem small_many (a : Option Addr) (n c most : Nat) (xs : List EdH) (w : World) (hm : most ≤ 1000) (hn : most < n) : Calls Try.prog 10 #[.slice a n c, .int .i64 (most : Int)] w (SmallSays n most xs w) := by
  have d1 : decide ((n : Int) > (most : Int)) = true := by simp; omega
  have d2 : decide (most < n) = true := by simp; omega
  clear hm hn
  go_enter Try.func10, Try.ntmps10
  go_wp2_with fail
  go_ret
  exact ⟨false, rfl, fun h => (by cases h), Keeps.refl _ _⟩
/-- Are these edits that a play goes through with? -/
theorem small_any (a : Option Addr) (n c most : Nat) (xs : List EdH) (w : World) (hm : most ≤ 1000) (E : Eds w a n xs) : Calls Try.prog 10 #[.slice a n c, .int .i64 (most : Int)] w (SmallSays n most xs w) := by
  by_cases hn : most < n
  · exact small_many a n c most xs w hm hn
  by_cases h0 : n = 0
  · subst h0
    obtain rfl := List.eq_nil_of_length_eq_zero E.1
    exact small_zero a c most w hm
  obtain ⟨x, hx⟩ : ∃ x, xs[0]? = some x := ⟨_, List.getElem?_eq_getElem (by have := E.1; omega)⟩
  obtain ⟨b, off, rfl, -⟩ := E.2 0 x hx
  exact small_some b off n c most xs w hm (by omega) E
end Go.Proofs.Ytfcpbpfemmdklaa

/- A layer that is moved, and moved back: plain. -/
namespace Go.Proofs.Ytfcpbpfemmdklaa
open Go.RowKit Go.Lib
set_option linter.unusedSimpArgs false
set_option linter.unusedVariables false

theorem go_pre (id : Int) : ∀ (pre : List Lay) (K : List PFrm) (pre0 rest : List Lay), (∀ d ∈ dats pre, d.id ≠ id) → go id K pre0 (pre ++ rest) = go id K (pre0 ++ pre) rest
  | [], K, pre0, rest, _ => by rw [List.nil_append, List.append_nil]
  | .mk e es :: pre, K, pre0, rest, h => by
    rw [dats] at h
    have h1 : e.id ≠ id := h e (by simp)
    have h2 : go id (⟨pre0, e, pre ++ rest⟩ :: K) [] es = none := (go_none id _ es (Nat.le_refl _) _ _).2 (fun d hd => h d (by simp [hd]))
    rw [List.cons_append, go, if_neg h1, h2]
    simp only
    refine (go_pre id pre K (pre0 ++ [.mk e es]) rest (fun d hd => h d (by simp [hd]))).trans ?_
    rw [List.append_assoc]
    rfl
theorem go_plugC (id : Int) (r : At') : ∀ (C : List PFrm) (xs : List Lay) (K : List PFrm), (∀ d ∈ datsC C, d.id ≠ id) → go id (C ++ K) [] xs = some r → go id K [] (plugP C xs) = some r
  | [], xs, K, _, h => h
  | f :: C, xs, K, hd, h => by
    rw [plugP]
    rw [datsC] at hd
    refine go_plugC id r C _ K (fun d hm => hd d (by simp [hm])) ?_
    rw [go_pre id f.pre _ [] _ (fun d hm => hd d (by simp [hm])), List.nil_append, go, if_neg (hd f.d (by simp))]
    have e : (⟨f.pre, f.d, f.post⟩ : PFrm) = f := rfl
    rw [e]
    rw [List.cons_append] at h
    rw [h]
theorem dats_at (C : List PFrm) (pre : List Lay) (d : Dat) (ks post : List Lay) : (dats (plugP C (pre ++ .mk d ks :: post))).Perm (d :: (dats pre ++ (dats ks ++ dats post) ++ datsC C)) := by
  refine (dats_plug C _).trans ?_
  rw [dats_append, dats]
  classical
  rw [List.perm_iff_count]
  intro u
  simp only [List.count_append, List.count_cons]
  omega
/-- A layer is found where it stands. -/
theorem fnd_here {C : List PFrm} {pre : List Lay} {d : Dat} {ks post : List Lay} (N : ((dats (plugP C (pre ++ .mk d ks :: post))).map (·.id)).Nodup) : fnd d.id (plugP C (pre ++ .mk d ks :: post)) = some ⟨C, pre, d, ks, post⟩ := by
  have p := dats_at C pre d ks post
  rw [(p.map _).nodup_iff, List.map_cons, List.nodup_cons] at N
  have ne : ∀ u, (u ∈ dats pre ∨ u ∈ datsC C) → u.id ≠ d.id := fun u hu e => N.1 (List.mem_map.2 ⟨u, by rcases hu with h | h <;> simp [h], e⟩)
  unfold fnd
  refine go_plugC d.id _ C _ [] (fun u hu => ne u (.inr hu)) ?_
  rw [List.append_nil, go_pre d.id pre C [] _ (fun u hu => ne u (.inl hu)), List.nil_append, go, if_pos rfl]
theorem home_at {P : Nat → Dat → Prop} {C : List PFrm} {xs : List Lay} (N : ((dats (plugP C xs)).map (·.id)).Nodup) (c : CtxN P C) (h1 : ∀ d ∈ datsC C, 1 ≤ d.id) : homeP (pidOf C) (plugP C xs) = .ok (C, xs) := by
  cases C with
  | nil => unfold homeP pidOf; rw [if_pos rfl, plugP]
  | cons f C =>
    rw [plugP] at N ⊢
    rw [CtxN] at c
    have hf : fnd f.d.id (plugP C (f.pre ++ .mk f.d xs :: f.post)) = some ⟨C, f.pre, f.d, xs, f.post⟩ := fnd_here N
    have h2 : f.d.id ≠ 0 := by have := h1 f.d (by rw [datsC]; simp); omega
    unfold homeP
    have hp : pidOf (f :: C) = f.d.id := rfl
    rw [hp, if_neg h2, hf]
    simp only
    rw [if_pos c.2.1.2]
/-- How many kids each layer has. -/
def nk : List Lay → List (Dat × Nat)
  | [] => []
  | .mk d kids :: ls => (d, kids.length) :: (nk kids ++ nk ls)
theorem nk_append : ∀ (xs ys : List Lay), nk (xs ++ ys) = nk xs ++ nk ys
  | [], ys => by rw [nk]; rfl
  | .mk d kids :: xs, ys => by rw [List.cons_append, nk, nk, nk_append xs ys, List.cons_append, List.append_assoc]
def nkC : List PFrm → Nat → List (Dat × Nat)
  | [], _ => []
  | f :: C, n => (nk f.pre ++ ((f.d, n) :: nk f.post)) ++ nkC C (f.pre.length + 1 + f.post.length)
theorem nk_plug : ∀ (C : List PFrm) (xs : List Lay), (nk (plugP C xs)).Perm (nk xs ++ nkC C xs.length)
  | [], xs => by rw [plugP, nkC, List.append_nil]
  | f :: C, xs => by
    rw [plugP]
    refine (nk_plug C _).trans ?_
    rw [nk_append, nk, nkC, List.length_append, List.length_cons, show f.pre.length + (f.post.length + 1) = f.pre.length + 1 + f.post.length by omega]
    classical
    rw [List.perm_iff_count]
    intro a
    simp only [List.count_append, List.count_cons]
    omega
def rootLen : List PFrm → Nat → Nat
  | [], n => n
  | f :: C, _ => rootLen C (f.pre.length + 1 + f.post.length)
theorem root_len : ∀ (C : List PFrm) (xs : List Lay), (plugP C xs).length = rootLen C xs.length
  | [], xs => rfl
  | f :: C, xs => by
    rw [plugP, root_len C, rootLen, List.length_append, List.length_cons, show f.pre.length + (f.post.length + 1) = f.pre.length + 1 + f.post.length by omega]
theorem nk_dats (n : Nat) : ∀ (ls : List Lay), SizeOf.sizeOf ls ≤ n → (nk ls).map (·.1) = dats ls := by
  induction n with
  | zero => intro ls h; cases ls <;> simp at h
  | succ n ih =>
    intro ls h
    match ls, h with
    | [], h => rw [nk, dats]; rfl
    | .mk d kids :: ls, h =>
      simp only [List.cons.sizeOf_spec, Lay.mk.sizeOf_spec] at h
      rw [nk, dats, List.map_cons, List.map_append, ih kids (by omega), ih ls (by omega)]
theorem key_uniq {α : Type} (f : α → Int) : ∀ (l : List α), (l.map f).Nodup → ∀ x ∈ l, ∀ y ∈ l, f x = f y → x = y := by
  intro l
  induction l with
  | nil => intro _ x hx; cases hx
  | cons u l ih =>
    intro hn x hx y hy exy
    rw [List.map_cons, List.nodup_cons] at hn
    have h1 := List.mem_cons.1 hx
    have h2 := List.mem_cons.1 hy
    clear hx hy
    rcases h1 with e1 | h1
    · rcases h2 with e2 | h2
      · rw [e1, e2]
      · exact (hn.1 (List.mem_map.2 ⟨y, h2, by rw [← e1]; exact exy.symm⟩)).elim
    · rcases h2 with e2 | h2
      · exact (hn.1 (List.mem_map.2 ⟨x, h1, by rw [← e2]; exact exy⟩)).elim
      · exact ih hn.2 x h1 y h2 exy
theorem nk_uniq {ls : List Lay} (h : ((dats ls).map (·.id)).Nodup) {m m' : Nat} {d d' : Dat} (a : (d, m) ∈ nk ls) (b : (d', m') ∈ nk ls) (e : d.id = d'.id) : m = m' := by
  rw [← nk_dats _ ls (Nat.le_refl _), List.map_map] at h
  exact congrArg (·.2) (key_uniq (fun x : Dat × Nat => x.1.id) _ h _ a _ b e)
theorem fnd_nk {id : Int} {ls : List Lay} {r : At'} (h : fnd id ls = some r) : (r.d, r.kids.length) ∈ nk ls := by
  have e := (fnd_plug h).1
  rw [← e]
  refine (nk_plug r.C _).mem_iff.2 ?_
  rw [nk_append, nk]
  simp
theorem insAt_split (at_ : Int) (l : Lay) (ls : List Lay) : ∃ a b, ls = a ++ b ∧ insAt at_ l ls = a ++ l :: b := by
  unfold insAt
  split
  · exact ⟨ls, [], by simp, rfl⟩
  · exact ⟨_, _, (List.take_append_drop at_.toNat ls).symm, rfl⟩
theorem allN_dps {R : Dat → Prop} : ∀ (k n : Nat) (ls : List Lay), SizeOf.sizeOf ls ≤ k → AllN (Deep64 R) n ls → ∀ m ∈ dps n ls, m ≤ 64
  | 0, n, ls, h, _, _, _ => by cases ls <;> simp at h
  | k + 1, n, [], h, _, m, hm => by rw [dps] at hm; cases hm
  | k + 1, n, .mk d kids :: ls, h, A, m, hm => by
    simp only [List.cons.sizeOf_spec, Lay.mk.sizeOf_spec] at h
    rw [AllN] at A
    rw [dps] at hm
    rcases List.mem_cons.1 hm with rfl | hm
    · exact A.1.1.1
    rcases List.mem_append.1 hm with hm | hm
    · exact allN_dps k (n + 1) kids (by omega) A.2.1 m hm
    · exact allN_dps k n ls (by omega) A.2.2 m hm
theorem foldl_le_of : ∀ (l : List Nat) (n b : Nat), n ≤ b → (∀ m ∈ l, m ≤ b) → l.foldl max n ≤ b
  | [], n, b, h, _ => h
  | a :: l, n, b, h, H => by
    rw [List.foldl_cons]
    exact foldl_le_of l (max n a) b (by have := H a (by simp); omega) (fun m hm => H m (by simp [hm]))
theorem height_le {R : Dat → Prop} {c k : Nat} {kids : List Lay} (hc : c + 1 ≤ 64) (A : AllN (Deep64 R) (c + 1) kids) : c + heightP k kids ≤ 64 := by
  have h0 : dps (c + 1) kids = (dps 0 kids).map (· + (c + 1)) := by
    have := dps_shift (c + 1) _ 0 kids (Nat.le_refl _)
    rwa [Nat.zero_add] at this
  have h1 : dps (k + 1) kids = (dps 0 kids).map (· + (k + 1)) := by
    have := dps_shift (k + 1) _ 0 kids (Nat.le_refl _)
    rwa [Nat.zero_add] at this
  have h2 := allN_dps _ _ _ (Nat.le_refl _) A
  have h3 : deepP (k + 1) kids ≤ k + (64 - c) := by
    unfold deepP
    refine foldl_le_of _ _ _ ?_ ?_
    all_goals first
      | omega
      | (intro m hm
         rw [h1] at hm
         obtain ⟨a, ha, rfl⟩ := List.mem_map.1 hm
         have := h2 (a + (c + 1)) (by rw [h0]; exact List.mem_map.2 ⟨a, ha, rfl⟩)
         show a + (k + 1) ≤ _
         omega)
  unfold heightP
  omega
/-- A layer that was moved can be moved back to where it stood. -/
theorem move_back {R : Dat → Prop} {z : Int} {ls ls' : List Lay} {id to at_ : Int} {r : At'} (I : Inv R z ls) (h : fnd id ls = some r) (e : moveP ls id to at_ = .ok ls') : moveP ls' id (pidOf r.C) (r.pre.length : Int) = .ok ls := by
  have G' := (good_move I.good e).1
  have p' := (good_move I.good e).2
  unfold moveP at e
  rw [h] at e
  simp only at e
  split at e
  · cases e
  rename_i C kids hh
  generalize ((kids.length : Int) - (if pidOf r.C = pidOf C then 1 else 0)) = room at e
  split at e
  · cases e
  split at e
  · cases e
  split at e
  · cases e
  split at e
  · cases e
  rename_i C' kids' hh'
  cases e
  have hid := (fnd_plug h).2
  have els := (fnd_plug h).1
  obtain ⟨c, al⟩ := fndN h I.all
  rw [allN_append, AllN] at al
  obtain ⟨-, ⟨⟨al1, -⟩, -⟩, al2, -⟩ := al
  obtain ⟨M, hM⟩ : ∃ M, M = plugP r.C (r.pre ++ r.post) := ⟨_, rfl⟩
  have pM := dats_rest h
  rw [← hM] at pM hh'
  have N := I.good.nodup
  have N' := G'.nodup
  have pid : ((dats ls).map (·.id)).Perm ((dats M ++ r.d :: dats r.kids).map (·.id)) := pM.map _
  have N0 : ((dats M ++ r.d :: dats r.kids).map (·.id)).Nodup := pid.nodup_iff.1 N
  rw [List.map_append, List.nodup_append] at N0
  obtain ⟨NM, NL, ND⟩ := N0
  have far : ∀ u ∈ dats M, u.id ≠ r.d.id ∧ ∀ v ∈ dats r.kids, u.id ≠ v.id := fun u hu =>
    ⟨ND u.id (List.mem_map.2 ⟨u, hu, rfl⟩) r.d.id (by simp), fun v hv => ND u.id (List.mem_map.2 ⟨u, hu, rfl⟩) v.id (List.mem_map.2 ⟨v, by simp [hv], rfl⟩)⟩
  have mls : ∀ u ∈ dats M, u ∈ dats ls := fun u hu => pM.mem_iff.2 (List.mem_append.2 (.inl hu))
  have hplug := (homeP_plug hh').1
  obtain ⟨a, b, e1, e2⟩ := insAt_split at_ (.mk r.d r.kids) kids'
  rw [e2] at N' G' p' ⊢
  rw [e1] at hplug
  obtain ⟨ls', hls'⟩ : ∃ ls', ls' = plugP C' (a ++ .mk r.d r.kids :: b) := ⟨_, rfl⟩
  have f1 : fnd id ls' = some ⟨C', a, r.d, r.kids, b⟩ := by rw [hls', ← hid]; exact fnd_here N'
  have mls' : ∀ u ∈ dats M, u ∈ dats ls' := fun u hu => by rw [hls']; exact p'.mem_iff.2 (mls u hu)
  have hC1 : ∀ d ∈ datsC r.C, 1 ≤ d.id := fun d hd => (I.good.range d (mls d (by rw [hM]; exact (dats_plug r.C _).mem_iff.2 (List.mem_append.2 (.inr hd))))).1
  have NMM := NM
  rw [hM] at NMM
  have hback : homeP (pidOf r.C) M = .ok (r.C, r.pre ++ r.post) := by rw [hM]; exact home_at NMM c hC1
  -- the home in the document where the layer stands elsewhere
  have hhome : ∃ C2 kids2, homeP (pidOf r.C) ls' = .ok (C2, kids2) ∧ C2.length = r.C.length ∧ (r.pre.length : Int) ≤ (kids2.length : Int) - (if pidOf C' = pidOf C2 then 1 else 0) := by
    cases hrc : r.C with
    | nil =>
      have hM2 : M = r.pre ++ r.post := by rw [hM, hrc, plugP]
      refine ⟨[], ls', by unfold homeP pidOf; rw [if_pos rfl], rfl, ?_⟩
      have l1 : ls'.length = rootLen C' ((a ++ b).length + 1) := by
        rw [hls', root_len, List.length_append, List.length_cons, List.length_append]
        rfl
      have l2 : M.length = rootLen C' (a ++ b).length := by rw [← hplug, root_len]
      have l3 : r.pre.length ≤ M.length := by rw [hM2, List.length_append]; omega
      cases C' with
      | nil =>
        rw [rootLen] at l1 l2
        split <;> omega
      | cons f' Ct' =>
        rw [rootLen] at l1 l2
        have hf' : 1 ≤ f'.d.id := (G'.range f'.d ((dats_plug _ _).mem_iff.2 (List.mem_append.2 (.inr (by rw [datsC]; simp))))).1
        have : ¬ pidOf (f' :: Ct') = pidOf [] := by
          show ¬ f'.d.id = 0
          omega
        rw [if_neg this]
        omega
    | cons f Ct =>
      have hfM : f.d ∈ dats M := by rw [hM, hrc]; exact (dats_plug _ _).mem_iff.2 (List.mem_append.2 (.inr (by rw [datsC]; simp)))
      have hf0 : f.d.id ≠ 0 := by have := (I.good.range f.d (mls _ hfM)).1; omega
      have hk1 : f.d.kind = 1 := by rw [hrc, CtxN] at c; exact c.2.1.2
      have Nls : ((dats ls').map (·.id)).Nodup := by rw [hls']; exact N'
      cases hf : fnd f.d.id ls' with
      | none => exact absurd rfl (fnd_none.1 hf _ (mls' _ hfM))
      | some r2 =>
        have e3 : r2.d = f.d := uniq_dat Nls (fnd_mem hf) (mls' _ hfM) (fnd_plug hf).2
        refine ⟨⟨r2.pre, r2.d, r2.post⟩ :: r2.C, r2.kids, ?_, ?_, ?_⟩
        · unfold homeP
          have hp : pidOf (f :: Ct) = f.d.id := rfl
          rw [hp, if_neg hf0, hf]
          simp only
          rw [if_pos (by rw [e3]; exact hk1)]
        · have m1 := fnd_nd hf
          have m2 : (Ct.length + 1, f.d) ∈ nd 0 M := by
            rw [hM, hrc]
            refine (nd_plug _ _).mem_iff.2 (List.mem_append.2 (.inr ?_))
            rw [ndC]
            simp
          have m3 : (Ct.length + 1, f.d) ∈ nd 0 ls' := by
            rw [← hplug] at m2
            have := (nd_plug C' (a ++ b)).mem_iff.1 m2
            rw [hls']
            refine (nd_plug C' _).mem_iff.2 ?_
            rw [nd_append] at this
            rw [nd_append, nd]
            simp only [List.mem_append, List.mem_cons] at this ⊢
            rcases this with (q | q) | q
            · exact .inl (.inl q)
            · exact .inl (.inr (.inr (.inr q)))
            · exact .inr q
          have := (nd_uniq Nls m1 m3 (by rw [e3])).1
          simp only [List.length_cons]
          omega
        · have q1 := fnd_nk hf
          rw [e3] at q1
          have q2 : (f.d, (r.pre ++ r.post).length) ∈ nk M := by
            rw [hM, hrc]
            refine (nk_plug _ _).mem_iff.2 (List.mem_append.2 (.inr ?_))
            rw [nkC]
            simp
          have q3 := q2
          rw [← hplug] at q3
          have q4 := (nk_plug C' (a ++ b)).mem_iff.1 q3
          have q5 : ∀ u, (u ∈ nk (a ++ b) ∨ u ∈ nkC C' ((a ++ b).length + 1)) → u ∈ nk ls' := fun u hu => by
            rw [hls']
            refine (nk_plug C' _).mem_iff.2 ?_
            rw [nk_append, nk, show (a ++ Lay.mk r.d r.kids :: b).length = (a ++ b).length + 1 from by simp; omega]
            rcases hu with hu | hu
            · rw [nk_append] at hu
              simp only [List.mem_append, List.mem_cons] at hu ⊢
              rcases hu with q | q
              · exact .inl (.inl q)
              · exact .inl (.inr (.inr (.inr q)))
            · exact List.mem_append.2 (.inr hu)
          have lp : r.pre.length ≤ (r.pre ++ r.post).length := by rw [List.length_append]; omega
          have hp2 : pidOf (⟨r2.pre, r2.d, r2.post⟩ :: r2.C) = f.d.id := by show r2.d.id = _; rw [e3]
          rw [hp2]
          cases C' with
          | nil =>
            have hne : ¬ pidOf ([] : List PFrm) = f.d.id := fun q => hf0 q.symm
            rw [if_neg hne]
            rw [nkC, List.append_nil] at q4
            have := nk_uniq Nls q1 (q5 _ (.inl q4)) rfl
            omega
          | cons f' Ct' =>
            by_cases hff : f'.d.id = f.d.id
            · have q6 : (f'.d, (a ++ b).length + 1) ∈ nk ls' := q5 _ (.inr (by rw [nkC]; simp))
              have q7 : (f'.d, (a ++ b).length) ∈ nk M := by
                rw [← hplug]
                refine (nk_plug _ _).mem_iff.2 (List.mem_append.2 (.inr ?_))
                rw [nkC]
                simp
              have i1 := nk_uniq Nls q1 q6 hff.symm
              have i2 := nk_uniq NM q2 q7 hff.symm
              split <;> omega
            · have hne : ¬ pidOf (f' :: Ct') = f.d.id := hff
              rw [if_neg hne]
              have q8 : (f.d, (r.pre ++ r.post).length) ∈ nk ls' := by
                rcases List.mem_append.1 q4 with q | q
                · exact q5 _ (.inl q)
                · refine q5 _ (.inr ?_)
                  rw [nkC] at q ⊢
                  simp only [List.mem_append, List.mem_cons] at q ⊢
                  rcases q with (q | q | q) | q
                  · exact .inl (.inl q)
                  · have : f.d = f'.d := congrArg (·.1) q
                    exact absurd (by rw [this]) hff
                  · exact .inl (.inr (.inr q))
                  · exact .inr q
              have := nk_uniq Nls q1 q8 rfl
              omega
  obtain ⟨C2, kids2, g1, g2, g3⟩ := hhome
  have ncyc : ¬ (r.d.id = pidOf r.C ∨ (fnd (pidOf r.C) r.kids).isSome = true) := by
    cases hrc : r.C with
    | nil =>
      rintro (q | q)
      · have := (I.good.range _ (fnd_mem h)).1
        have q' : r.d.id = 0 := q
        omega
      · have : fnd 0 r.kids = none := fnd_none.2 (fun u hu q0 => by
          have := (I.good.range u (pM.mem_iff.2 (by simp [hu]))).1
          omega)
        have q' : (fnd 0 r.kids).isSome = true := q
        rw [this] at q'
        cases q'
    | cons f Ct =>
      have hfM : f.d ∈ dats M := by rw [hM, hrc]; exact (dats_plug _ _).mem_iff.2 (List.mem_append.2 (.inr (by rw [datsC]; simp)))
      rintro (q | q)
      · exact (far _ hfM).1 (show f.d.id = r.d.id from q.symm)
      · have : fnd f.d.id r.kids = none := fnd_none.2 (fun u hu q0 => (far _ hfM).2 u hu q0.symm)
        have q' : (fnd f.d.id r.kids).isSome = true := q
        rw [this] at q'
        cases q'
  have hh2 := height_le (k := C'.length) (show r.C.length + 1 ≤ 64 from al1) al2
  rw [← hls']
  unfold moveP
  rw [f1]
  simp only
  rw [g1]
  simp only
  rw [if_neg ncyc, if_neg (by omega), if_neg (by omega), hplug, hback]
  simp only
  have e5 : insAt (r.pre.length : Int) (.mk r.d r.kids) (r.pre ++ r.post) = r.pre ++ .mk r.d r.kids :: r.post := by
    unfold insAt
    rw [if_neg (by omega), Int.toNat_natCast, List.take_left, List.drop_left]
  rw [e5, els]
end Go.Proofs.Ytfcpbpfemmdklaa

/- Hidden and shown, masked and unmasked: plain; edits' errors; a play's document. -/
namespace Go.Proofs.Ytfcpbpfemmdklaa
open Go.RowKit Go.Lib
set_option linter.unusedSimpArgs false
set_option linter.unusedVariables false

theorem turn_fnd {R : Dat → Prop} {z : Int} {id : Int} {ls : List Lay} {r : At'} {d' : Dat} (I : Inv R z ls) (h : fnd id ls = some r) (hid : d'.id = r.d.id) (hk : d'.kind = r.d.kind) (hR : R r.d → R d') :
    fnd id (plugP r.C (r.pre ++ .mk d' r.kids :: r.post)) = some ⟨r.C, r.pre, d', r.kids, r.post⟩ := by
  have N := (turnInv I h hid hk hR).good.nodup
  rw [← (fnd_plug h).2, ← hid]
  exact fnd_here N
/-- The layers with one hidden. -/
def hidden (r : At') : List Lay := plugP r.C (r.pre ++ .mk (setHid r.d true) r.kids :: r.post)
theorem hide_on {ls : List Lay} {id : Int} {r : At'} (h : fnd id ls = some r) : hideP ls id 1 = .ok (hidden r) := by
  unfold hideP
  rw [h]
  rfl
theorem hide_off {R : Dat → Prop} {z : Int} {ls : List Lay} {id : Int} {r : At'} (I : Inv R z ls) (h : fnd id ls = some r) (hR : R r.d → R (setHid r.d true)) (hh : r.d.hid = false) : hideP (hidden r) id 0 = .ok ls := by
  unfold hideP hidden
  rw [turn_fnd I h (d' := setHid r.d true) rfl rfl hR]
  have e : setHid (setHid r.d true) (decide ((0 : Int) = 1)) = r.d := by
    obtain ⟨C, pre, d, ks, post⟩ := r
    cases d
    simp only at hh
    subst hh
    rfl
  simp only
  rw [if_neg (by decide), e, (fnd_plug h).1]
theorem hidden_ne {R : Dat → Prop} {z : Int} {ls : List Lay} {id : Int} {r : At'} (I : Inv R z ls) (h : fnd id ls = some r) (hR : R r.d → R (setHid r.d true)) (hh : r.d.hid = false) : sameP (hidden r) ls = false := by
  cases hq : sameP (hidden r) ls with
  | false => rfl
  | true =>
    have e := sameP_true.1 hq
    have h2 := turn_fnd I h (d' := setHid r.d true) rfl rfl hR
    have e' : plugP r.C (r.pre ++ .mk (setHid r.d true) r.kids :: r.post) = ls := e
    rw [e', h] at h2
    have h3 : r.d.hid = (setHid r.d true).hid := congrArg (fun q : At' => q.d.hid) (Option.some.inj h2)
    rw [hh] at h3
    cases h3
theorem mask_off {R : Dat → Prop} {z x y : Int} {ls ls' : List Lay} {e : PEd} {r : At'} (I : Inv R z ls) (h : fnd e.id ls = some r) (hn : e.n = 0) (hR : ∀ l, R r.d → R (setMask r.d l)) (hm : r.d.mask = []) (ok : maskP ls x y e = .ok ls') (e2 : PEd) (h2 : e2.id = e.id) (hn2 : e2.n = 2) : maskP ls' x y e2 = .ok ls := by
  unfold maskP at ok
  rw [h] at ok
  simp only at ok
  rw [if_neg (by rw [hn]; decide), if_neg (by rw [hn]; decide)] at ok
  split at ok
  · cases ok
  cases ok
  unfold maskP
  rw [h2, turn_fnd I h (d' := setMask r.d (maskL (e.shape.map ptOf) x.toNat y.toNat (decide (e.n = 1)))) rfl rfl (hR _)]
  simp only
  rw [if_neg (by rw [hn2]; decide), if_pos hn2]
  have e3 : ∀ l, setMask (setMask r.d l) [] = r.d := by
    intro l
    obtain ⟨C, pre, d, ks, post⟩ := r
    cases d
    simp only at hm
    subst hm
    rfl
  rw [e3, (fnd_plug h).1]
theorem doP_err {x y z : Int} {ls : List Lay} {e : PEd} {f : Int} (h : doP x y z ls e = .error f) : f ≠ 0 := by
  unfold doP at h
  split at h
  · exact addP_err h
  split at h
  · exact removeP_err h
  split at h
  · exact moveP_err h
  split at h
  · exact paintE_err h
  split at h
  · exact lookP_err h
  split at h
  · exact hideP_err h
  split at h
  · exact maskP_err h
  split at h
  · exact placeP_err h
  split at h
  · exact adjustP_err h
  · cases h; decide
/-- A play's document under way, in a variable. -/
structure PlayD (w : World) (A : Nat) (x y z : Int) (w' : World) (h : Hd) (l : List Loc) (B : Nat) : Prop where
  doc : Dc w' A x y z h
  low : A < B
  new : NewD B w' h l
  inv : Inv RW z (er l)
  keeps : Keeps none' w w'
  old : w.heap.size ≤ A
theorem PlayD.later {w : World} {A : Nat} {x y z : Int} {w' w'' : World} {h : Hd} {l : List Loc} {B : Nat} (r : PlayD w A x y z w' h l B) (k : Keeps none' w' w'') : PlayD w A x y z w'' h l B :=
  ⟨r.doc.later k, r.low, r.new.later k, r.inv, r.keeps.next k, r.old⟩
theorem PlayD.next {w : World} {A : Nat} {x y z z' : Int} {w0 w3 : World} {h h' : Hd} {l l' : List Loc} {B : Nat} (r : PlayD w A x y z w0 h l B) (k : Keeps none' w0 w3) (n : NewD w0.heap.size w3 h' l') (I : Inv RW z' (er l')) :
    PlayD w A x y z' ((((w3.setCell ⟨A, 0, none⟩ (.int .i64 x)).setCell ⟨A, 1, none⟩ (.int .i64 y)).setCell ⟨A, 2, none⟩ (.int .i64 z')).setCell ⟨A, 3, none⟩ (.slice h'.a h'.n h'.c)) h' l' w0.heap.size := by
  obtain ⟨a, b, c⟩ := set_doc (x' := x) (y' := y) (z' := z') (r.doc.later k) n r.doc.lt (r.keeps.next k) r.old
  exact ⟨a, r.doc.lt, b, I, c, r.old⟩
theorem PlayD.start {w w3 : World} {A : Nat} {x y : Int} (d : Dc w3 A x y 1 Hd.nil) (k : Keeps none' w w3) (hA : w.heap.size ≤ A) : PlayD w A x y 1 w3 Hd.nil [] (A + 1) := by
  refine ⟨d, Nat.lt_succ_self _, ⟨⟨⟨by rw [flat]; rfl, .inl ⟨rfl, rfl⟩⟩, fun u hu => (by rw [flat] at hu; cases hu), by show 0 ≤ _; omega⟩, by unfold Own; rw [All]; trivial, by simp [Hd.blk, Hd.nil, blks, hds]⟩, ?_, k, hA⟩
  rw [er]
  exact inv0 RW
end Go.Proofs.Ytfcpbpfemmdklaa
