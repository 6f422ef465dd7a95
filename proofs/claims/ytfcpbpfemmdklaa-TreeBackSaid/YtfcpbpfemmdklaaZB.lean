/- Moving, what hangs on plain words: how many kids a group has behind a taking; when two homes are one. -/
import Derived.Test.YtfcpbpfemmdklaaYA
namespace Go.Proofs.Ytfcpbpfemmdklaa
open Go.RowKit Go.Lib
set_option linter.unusedSimpArgs false
set_option linter.unusedVariables false

/-- All layers, with how many kids each has. -/
def kls : List Lay → List (Dat × Nat)
  | [] => []
  | .mk d kids :: ls => (d, kids.length) :: (kls kids ++ kls ls)
theorem kls_append : ∀ (xs ys : List Lay), kls (xs ++ ys) = kls xs ++ kls ys
  | [], ys => by rw [kls]; rfl
  | .mk d kids :: xs, ys => by rw [List.cons_append, kls, kls, kls_append xs ys]; simp
def klsC : List PFrm → Nat → List (Dat × Nat)
  | [], _ => []
  | f :: C, n => (f.d, n) :: (kls f.pre ++ (kls f.post ++ klsC C (f.pre.length + 1 + f.post.length)))
theorem perm_mid {α : Type} (a : α) (p x q r : List α) : ((p ++ a :: (x ++ q)) ++ r).Perm (x ++ (a :: (p ++ (q ++ r)))) := by
  have e1 : ((p ++ a :: (x ++ q)) ++ r) = p ++ a :: (x ++ (q ++ r)) := by simp
  rw [e1]
  refine List.perm_middle.trans ((List.Perm.cons a ?_).trans List.perm_middle.symm)
  have e2 : (p ++ x ++ (q ++ r)).Perm (x ++ p ++ (q ++ r)) := List.perm_append_comm.append_right _
  rw [List.append_assoc, List.append_assoc] at e2
  exact e2
theorem kls_plug : ∀ (C : List PFrm) (xs : List Lay), (kls (plugP C xs)).Perm (kls xs ++ klsC C xs.length)
  | [], xs => by simp [plugP, klsC]
  | f :: C, xs => by
    refine (kls_plug C _).trans ?_
    rw [kls_append, kls, klsC]
    have e : (f.pre ++ .mk f.d xs :: f.post).length = f.pre.length + 1 + f.post.length := by
      rw [List.length_append, List.length_cons]; omega
    rw [e]
    exact perm_mid _ _ _ _ _
theorem kls_fst : ∀ (n : Nat) (ls : List Lay), SizeOf.sizeOf ls ≤ n → (kls ls).map (·.1) = dats ls
  | 0, ls, hs => by cases ls <;> simp at hs
  | n + 1, [], hs => by rw [kls, dats]; rfl
  | n + 1, .mk d kids :: ls, hs => by
    simp only [List.cons.sizeOf_spec, Lay.mk.sizeOf_spec] at hs
    rw [kls, dats, List.map_cons, List.map_append, kls_fst n kids (by omega), kls_fst n ls (by omega)]
theorem kls_map (ls : List Lay) : (kls ls).map (·.1) = dats ls := kls_fst _ ls (Nat.le_refl _)
theorem uniq_map {α β : Type} {f : α → β} {xs : List α} (h : (xs.map f).Nodup) {a b : α} (ha : a ∈ xs) (hb : b ∈ xs) (e : f a = f b) : a = b := by
  induction xs with
  | nil => cases ha
  | cons x xs ih =>
    rw [List.map_cons, List.nodup_cons] at h
    rcases List.mem_cons.1 ha with ha2 | ha2 <;> rcases List.mem_cons.1 hb with hb2 | hb2
    · rw [ha2, hb2]
    · exact (h.1 (List.mem_map.2 ⟨b, hb2, by rw [← e, ha2]⟩)).elim
    · exact (h.1 (List.mem_map.2 ⟨a, ha2, by rw [e, hb2]⟩)).elim
    · exact ih h.2 ha2 hb2
theorem kls_nodup {ls : List Lay} (h : ((dats ls).map (·.id)).Nodup) : ((kls ls).map (fun x => x.1.id)).Nodup := by
  rw [← kls_map, List.map_map] at h
  exact h
theorem homeP_kls {to : Int} {ls : List Lay} {C : List PFrm} {kids : List Lay} (h : homeP to ls = .ok (C, kids)) (h0 : to ≠ 0) : ∃ d : Dat, d.id = to ∧ (d, kids.length) ∈ kls ls := by
  obtain ⟨r, e1, e2, e3⟩ := homeP_mem h h0
  have p := fnd_plug e1
  simp only [Prod.mk.injEq] at e3
  obtain ⟨-, rfl⟩ := e3
  refine ⟨r.d, p.2, ?_⟩
  rw [← p.1]
  refine (kls_plug _ _).mem_iff.2 (List.mem_append.2 (.inl ?_))
  rw [kls_append, kls]
  simp
theorem plug_len (f : PFrm) : ∀ (C : List PFrm) (xs ys : List Lay), (plugP (f :: C) xs).length = (plugP (f :: C) ys).length := by
  intro C
  induction C generalizing f with
  | nil => intro xs ys; simp [plugP]
  | cons g C ih =>
    intro xs ys
    exact ih g (f.pre ++ .mk f.d xs :: f.post) (f.pre ++ .mk f.d ys :: f.post)
/-- How many kids a group has behind a taking. -/
theorem home_len {z id to : Int} {ls : List Lay} {r : At'} {C C' : List PFrm} {kids kids' : List Lay} (G : Good z ls) (hf : fnd id ls = some r) (h1 : homeP to ls = .ok (C, kids)) (h2 : homeP to (plugP r.C (r.pre ++ r.post)) = .ok (C', kids')) :
    (kids'.length : Int) = (kids.length : Int) - (if pidOf r.C = pidOf C then 1 else 0) := by
  have hp := fnd_plug hf
  have hC := (homeP_plug h1).2
  rw [hC]
  by_cases h0 : to = 0
  · unfold homeP at h1 h2
    rw [if_pos h0] at h1 h2
    simp only [Except.ok.injEq, Prod.mk.injEq] at h1 h2
    obtain ⟨-, rfl⟩ := h1
    obtain ⟨-, rfl⟩ := h2
    cases hc : r.C with
    | nil =>
      rw [hc] at hp
      have e1 : ls = r.pre ++ .mk r.d r.kids :: r.post := hp.1.symm
      rw [if_pos (by rw [h0]; rfl), e1]
      simp only [plugP, List.length_append, List.length_cons]
      omega
    | cons f D =>
      have hne : ¬ pidOf (f :: D) = to := by
        intro e
        have hm : f.d ∈ dats ls := by
          rw [← hp.1, hc]
          exact (dats_plug _ _).mem_iff.2 (List.mem_append.2 (.inr (by rw [datsC]; simp)))
        have := (G.range _ hm).1
        have e' : f.d.id = to := e
        omega
      rw [if_neg hne, Int.sub_zero]
      have := plug_len f D (r.pre ++ r.post) (r.pre ++ .mk r.d r.kids :: r.post)
      rw [hc] at hp
      rw [hp.1] at this
      rw [this]
  · obtain ⟨d, d1, d2⟩ := homeP_kls h1 h0
    obtain ⟨d', d1', d2'⟩ := homeP_kls h2 h0
    have nk := kls_nodup G.nodup
    have p1 := kls_plug r.C (r.pre ++ .mk r.d r.kids :: r.post)
    rw [hp.1] at p1
    have p2 := kls_plug r.C (r.pre ++ r.post)
    have len1 : (r.pre ++ .mk r.d r.kids :: r.post).length = (r.pre ++ r.post).length + 1 := by simp only [List.length_append, List.length_cons]; omega
    rw [len1] at p1
    generalize hn : (r.pre ++ r.post).length = n at p1 p2
    have sub : ∀ x ∈ kls (r.pre ++ r.post), x ∈ kls (r.pre ++ .mk r.d r.kids :: r.post) := by
      intro x hx
      rw [kls_append] at hx ⊢
      rw [kls]
      rcases List.mem_append.1 hx with hx | hx
      · simp [hx]
      · simp [hx]
    have fin : (d', kids'.length) ∈ kls ls → ¬ pidOf r.C = to → (kids'.length : Int) = (kids.length : Int) - (if pidOf r.C = to then 1 else 0) := by
      intro hm hne
      have := uniq_map nk hm d2 (by show d'.id = d.id; rw [d1, d1'])
      simp only [Prod.mk.injEq] at this
      rw [if_neg hne, this.2, Int.sub_zero]
    rcases List.mem_append.1 (p2.mem_iff.1 d2') with hm | hm
    · refine fin (p1.mem_iff.2 (List.mem_append.2 (.inl (sub _ hm)))) ?_
      intro e
      cases hc : r.C with
      | nil =>
        rw [hc] at e
        exact h0 e.symm
      | cons f D =>
        rw [hc] at e p1
        have e' : f.d.id = to := e
        have nk2 := (p1.map (fun x : Dat × Nat => x.1.id)).nodup_iff.1 nk
        rw [List.map_append] at nk2
        refine (List.nodup_append.1 nk2).2.2 to (List.mem_map.2 ⟨_, sub _ hm, d1'⟩) to (List.mem_map.2 ⟨(f.d, n + 1), ?_, e'⟩) rfl
        rw [klsC]; simp
    · cases hc : r.C with
      | nil => rw [hc, klsC] at hm; cases hm
      | cons f D =>
        rw [hc] at hm p1 fin
        rw [klsC] at hm
        rcases List.mem_cons.1 hm with hm | hm
        · simp only [Prod.mk.injEq] at hm
          obtain ⟨e1, e2⟩ := hm
          have hpid : pidOf (f :: D) = to := by show f.d.id = to; rw [← e1]; exact d1'
          have hm2 : (d', n + 1) ∈ kls ls := by
            refine p1.mem_iff.2 (List.mem_append.2 (.inr ?_))
            rw [klsC, e1]; simp
          have := uniq_map nk hm2 d2 (by show d'.id = d.id; rw [d1, d1'])
          simp only [Prod.mk.injEq] at this
          rw [if_pos hpid, ← this.2, e2]
          omega
        · have hm2 : (d', kids'.length) ∈ klsC (f :: D) (n + 1) := by rw [klsC]; exact List.mem_cons.2 (.inr hm)
          refine fin (p1.mem_iff.2 (List.mem_append.2 (.inr hm2))) ?_
          intro e
          have e' : f.d.id = to := e
          have nk2 := (p1.map (fun x : Dat × Nat => x.1.id)).nodup_iff.1 nk
          rw [List.map_append] at nk2
          have nk3 := (List.nodup_append.1 nk2).2.1
          rw [klsC, List.map_cons, List.nodup_cons] at nk3
          exact nk3.1 (List.mem_map.2 ⟨_, hm, by show d'.id = f.d.id; rw [d1', e']⟩)
theorem pid_er : ∀ C : List Frm, pidOf (C.map Frm.er) = idOf C
  | [] => rfl
  | f :: C => rfl
/-- What is within a spot is among all. -/
theorem sps_inner : ∀ (n : Nat) (ls : List Loc), SizeOf.sizeOf ls ≤ n → ∀ (hid : Int) (kb ko dep b o i : Nat) (Y : Spt), Y ∈ sps hid kb ko dep b o i ls → ∀ X ∈ inner Y, X ∈ sps hid kb ko dep b o i ls
  | 0, ls, hs, _, _, _, _, _, _, _, _, _ => by cases ls <;> simp at hs
  | n + 1, [], hs, _, _, _, _, _, _, _, Y, hY => by rw [sps] at hY; cases hY
  | n + 1, .mk d p m q k kids :: ls, hs, hid, kb, ko, dep, b, o, i, Y, hY => by
    simp only [List.cons.sizeOf_spec, Loc.mk.sizeOf_spec] at hs
    intro X hX
    rw [sps] at hY ⊢
    rcases List.mem_cons.1 hY with rfl | hY
    · exact List.mem_cons.2 (.inr (List.mem_append.2 (.inl hX)))
    · rcases List.mem_append.1 hY with hY | hY
      · exact List.mem_cons.2 (.inr (List.mem_append.2 (.inl (sps_inner n kids (by omega) _ _ _ _ _ _ _ Y hY X hX))))
      · exact List.mem_cons.2 (.inr (List.mem_append.2 (.inr (sps_inner n ls (by omega) _ _ _ _ _ _ _ Y hY X hX))))
theorem sps_mid (hid : Int) (kb ko dep b o : Nat) (pre : List Loc) (l : Loc) (post : List Loc) : (⟨hid, kb, ko, dep, pre.length, l, b, o + pre.length * 19⟩ : Spt) ∈ sps hid kb ko dep b o 0 (pre ++ l :: post) := by
  rw [sps_append, Nat.zero_add]
  refine List.mem_append.2 (.inr ?_)
  cases l
  rw [sps]
  simp
theorem ctx_mem (R : Nat) : ∀ (C : List Frm) (h : Hd) (pre : List Loc) (l : Loc) (post : List Loc), sptOf R C h pre.length l ∈ sps 0 R 3 0 (plugH C h).b (plugH C h).o 0 (plugL C h (pre ++ l :: post))
  | [], h, pre, l, post => sps_mid 0 R 3 0 h.b h.o pre l post
  | f :: C, h, pre, l, post => by
    have ih := ctx_mem R C f.h f.pre (.mk f.d f.p f.m f.q h (pre ++ l :: post)) f.post
    refine sps_inner _ _ (Nat.le_refl _) _ _ _ _ _ _ _ _ ih _ ?_
    exact sps_mid f.d.id f.h.b (f.h.o + f.pre.length * 19 + 18) (C.length + 1) h.b h.o pre l post
theorem ids_sps : ∀ (n : Nat) (ls : List Loc), SizeOf.sizeOf ls ≤ n → ∀ (hid : Int) (kb ko dep b o i : Nat), (sps hid kb ko dep b o i ls).map (fun X => X.l.dat.id) = (dats (er ls)).map (·.id)
  | 0, ls, hs, _, _, _, _, _, _, _ => by cases ls <;> simp at hs
  | n + 1, [], hs, _, _, _, _, _, _, _ => by rw [sps, er, dats]; rfl
  | n + 1, .mk d p m q k kids :: ls, hs, hid, kb, ko, dep, b, o, i => by
    simp only [List.cons.sizeOf_spec, Loc.mk.sizeOf_spec] at hs
    rw [sps, er, dats, List.map_cons, List.map_append, List.map_cons, List.map_append, ids_sps n kids (by omega), ids_sps n ls (by omega)]
    rfl
/-- Two homes with one number are one. -/
theorem home_one {z : Int} {R : Nat} {C C2 : List Frm} {h h2 : Hd} {ls ls2 : List Loc} (G : Good z (er (plugL C h ls))) (e1 : plugH C2 h2 = plugH C h) (e2 : plugL C2 h2 ls2 = plugL C h ls) (e : idOf C2 = idOf C) : kbOf R C2 = kbOf R C ∧ koOf C2 = koOf C := by
  have nz : ∀ (f : Frm) (D : List Frm) (hh : Hd) (l3 : List Loc), plugL (f :: D) hh l3 = plugL C h ls → 1 ≤ idOf (f :: D) := by
    intro f D hh l3 e3
    have hm : f.d ∈ dats (er (plugL C h ls)) := by
      rw [← e3, er_plug]
      refine (dats_plug _ _).mem_iff.2 (List.mem_append.2 (.inr ?_))
      rw [List.map_cons, datsC]
      exact List.mem_cons.2 (.inl rfl)
    exact (G.range _ hm).1
  cases C with
  | nil =>
    cases C2 with
    | nil => exact ⟨rfl, rfl⟩
    | cons f D =>
      have := nz f D h2 ls2 e2
      rw [e] at this
      exact absurd this (by show ¬ (1 : Int) ≤ 0; omega)
  | cons f D =>
    cases C2 with
    | nil =>
      have := nz f D h ls rfl
      rw [← e] at this
      exact absurd this (by show ¬ (1 : Int) ≤ 0; omega)
    | cons f2 D2 =>
      have m1 := ctx_mem R D f.h f.pre (.mk f.d f.p f.m f.q h ls) f.post
      have m2 := ctx_mem R D2 f2.h f2.pre (.mk f2.d f2.p f2.m f2.q h2 ls2) f2.post
      have m2' : sptOf R D2 f2.h f2.pre.length (.mk f2.d f2.p f2.m f2.q h2 ls2) ∈ sps 0 R 3 0 (plugH D f.h).b (plugH D f.h).o 0 (plugL D f.h (f.pre ++ .mk f.d f.p f.m f.q h ls :: f.post)) := by
        have e1' : plugH D2 f2.h = plugH D f.h := e1
        have e2' : plugL D2 f2.h (f2.pre ++ .mk f2.d f2.p f2.m f2.q h2 ls2 :: f2.post) = plugL D f.h (f.pre ++ .mk f.d f.p f.m f.q h ls :: f.post) := e2
        rw [← e1', ← e2']
        exact m2
      have nd : ((sps 0 R 3 0 (plugH D f.h).b (plugH D f.h).o 0 (plugL D f.h (f.pre ++ .mk f.d f.p f.m f.q h ls :: f.post))).map (fun X => X.l.dat.id)).Nodup := by
        rw [ids_sps _ _ (Nat.le_refl _)]
        exact G.nodup
      have := uniq_map nd m2' m1 e
      unfold sptOf at this
      simp only [Spt.mk.injEq] at this
      obtain ⟨-, -, -, -, -, -, q1, q2⟩ := this
      refine ⟨q1, ?_⟩
      show f2.h.o + f2.pre.length * 19 + 18 = f.h.o + f.pre.length * 19 + 18
      omega
/-- A group's number lies in its cells. -/
theorem Whole.idAt {B : Nat} {w : World} {R : Nat} {x y z : Int} {f : Frm} {C : List Frm} {h : Hd} {ls : List Loc} (W : Whole B w R x y z (plugH (f :: C) h) (plugL (f :: C) h ls)) : w.cell? ⟨kbOf R (f :: C), koOf (f :: C) - 18, none⟩ = some (.int .i64 (idOf (f :: C))) ∧ kbOf R (f :: C) ≠ R := by
  obtain ⟨-, -, c0⟩ := W.ctx
  have out := W.out'
  rw [CtxOwn] at c0
  have r := c0.1
  obtain ⟨eb, -⟩ := r.blk_eq (by have := row_pos f h []; omega)
  refine ⟨?_, fun e => out ?_⟩
  · have hn : 0 < f.h.n := by
      have h1 := r.1.1
      have h2 := row_pos f h []
      rcases Nat.eq_zero_or_pos f.h.n with e | e
      · rw [e] at h1; omega
      · exact e
    obtain ⟨g, c, cur, e, hB, hh, hc, hs, ht⟩ := r.some hn
    have eb2 : f.h.b = g := by rw [e]; rfl
    have eo : f.h.o = 0 := by rw [e]; rfl
    have h3 := flat_at (f.row h []) f.pre.length (.mk f.d f.p f.m f.q h []) (by unfold Frm.row; rw [List.getElem?_append_right (Nat.le_refl _), Nat.sub_self]; rfl) 0 (.int .i64 f.d.id) rfl
    have h4 := row_pos f h []
    have h5 : (flat (f.row h [])).length = f.h.n * 19 := r.1.1
    have hko : koOf (f :: C) - 18 = f.pre.length * 19 + 0 := by simp [koOf, eo]
    have hkb : kbOf R (f :: C) = g := eb2
    rw [hko, hkb]
    rw [cell_of_row _ _ _ _ _ _ hh, ← Array.getElem?_toList]
    rw [← ht, List.getElem?_take_of_lt (by omega)] at h3
    exact h3
  · have e' : f.h.b = R := e
    rw [← e']
    refine List.mem_append.2 (.inr ?_)
    rw [outs, Frm.rest, eb]
    simp
/-- Two homes at one place have one number. -/
theorem home_id {B : Nat} {w : World} {R : Nat} {x y z : Int} {C C2 : List Frm} {h h2 : Hd} {ls ls2 : List Loc} (W : Whole B w R x y z (plugH C h) (plugL C h ls)) (e1 : plugH C2 h2 = plugH C h) (e2 : plugL C2 h2 ls2 = plugL C h ls) (k1 : kbOf R C2 = kbOf R C) (k2 : koOf C2 = koOf C) : idOf C2 = idOf C := by
  cases C with
  | nil =>
    cases C2 with
    | nil => rfl
    | cons f D =>
      rw [← e1, ← e2] at W
      exact absurd k1 W.idAt.2
  | cons f D =>
    cases C2 with
    | nil => exact absurd k1.symm W.idAt.2
    | cons f2 D2 =>
      have a := W.idAt.1
      rw [← e1, ← e2] at W
      have b := W.idAt.1
      rw [k1, k2, a] at b
      simp only [Option.some.injEq, Value.int.injEq, true_and] at b
      exact b.symm
end Go.Proofs.Ytfcpbpfemmdklaa
