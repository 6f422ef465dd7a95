/- What a fill leaves: plain. -/
import Derived.Test.YtgonpaofickffaaTQ
namespace Go.Proofs.Ytgonpaofickffaa
open Go.RowKit Go.Maps
set_option linter.unusedVariables false

/-- Is a place on the list? -/
def On (ds : List Plc) (i j : Nat) : Prop := ∃ h, (⟨(i, j), h⟩ : Plc) ∈ ds
/-- A rectangle. -/
def Rect (xf xt yf yt x y : Nat) : Prop := xf ≤ x ∧ x < xt ∧ yf ≤ y ∧ y < yt
/-- Places of plane k of S0 written: what S then is. -/
structure Wrote (B : Nat) (S0 S : St) (k : Nat) (p : Pl) (ds : List Plc) (xf xt yf yt v : Nat) (p' : Pl) : Prop where
  A : S.A = S0.A
  cap : S.cap = S0.cap
  ps : S.ps = S0.ps.set k p'
  pb : p'.pb = p.pb
  mb : p'.mb = p.mb
  W : p'.W = p.W
  H : p'.H = p.H
  out : ∀ i j, ¬ On ds i j → p'.T i j = p.T i j
  on : ∀ i j, On ds i j → ∃ t, p'.T i j = some t ∧ ((aloneP S0 p i j ∧ p.T i j = some t) ∨ (¬ aloneP S0 p i j ∧ B ≤ t))
  mine : ∀ i j x y, x < 16 → y < 16 → (On ds i j ∧ Rect xf xt yf yt (i * 16 + x) (j * 16 + y) → pixAt S p' i j (y * 16 + x) = v) ∧ (¬ (On ds i j ∧ Rect xf xt yf yt (i * 16 + x) (j * 16 + y)) → pixAt S p' i j (y * 16 + x) = pixAt S0 p i j (y * 16 + x))
  pix : ∀ (m : Nat) q, m ≠ k → S0.ps[m]? = some q → ∀ i j, pixAt S q i j = pixAt S0 q i j
  live : ∃ fr : List Nat, S.live = S0.live ++ fr ∧ fr.length = needs S0 p ds ∧ ∀ t ∈ fr, B ≤ t
theorem Wrote.start {S : St} {k : Nat} {p : Pl} (hk : S.ps[k]? = some p) (B xf xt yf yt v : Nat) : Wrote B S S k p [] xf xt yf yt v p where
  A := rfl
  cap := rfl
  ps := by
    refine List.ext_getElem? (fun m => ?_)
    rw [List.getElem?_set]
    split
    · rename_i e
      subst e
      rw [hk, if_pos (List.getElem?_eq_some_iff.1 hk).1]
    · rfl
  pb := rfl
  mb := rfl
  W := rfl
  H := rfl
  out := fun _ _ _ => rfl
  on := fun i j ⟨h, hm⟩ => by cases hm
  mine := fun i j x y _ _ => ⟨fun ⟨⟨h, hm⟩, _⟩ => (by cases hm), fun _ => rfl⟩
  pix := fun _ _ _ _ _ _ => rfl
  live := ⟨[], by simp, rfl, fun t ht => by cases ht⟩
theorem cnt_two {ps : List Pl} {k m : Nat} {p q : Pl} {h : Nat × Nat} {t : Nat} (hk : ps[k]? = some p) (hm : ps[m]? = some q) (hne : m ≠ k) (hp : p.T h.1 h.2 = some t) (hq : q.T h.1 h.2 = some t) : 2 ≤ cnt ps h t := by
  have hc := cnt_set ps k p { p with T := fun _ _ => none } hk h t
  rw [if_pos hp] at hc
  simp only [reduceCtorEq, if_false, Nat.add_zero] at hc
  have : 0 < cnt (ps.set k { p with T := fun _ _ => none }) h t := by
    refine List.countP_pos_iff.2 ⟨q, ?_, by simp [hq]⟩
    refine List.mem_of_getElem? (i := m) ?_
    rw [List.getElem?_set_ne (fun e => hne e.symm)]
    exact hm
  omega
theorem Wrote.here {B : Nat} {S0 S : St} {k : Nat} {p p' : Pl} {ds : List Plc} {xf xt yf yt v : Nat} (h : Wrote B S0 S k p ds xf xt yf yt v p') (hk : S0.ps[k]? = some p) : S.ps[k]? = some p' := by
  rw [h.ps, List.getElem?_set_self (List.getElem?_eq_some_iff.1 hk).1]
theorem Wrote.there {B : Nat} {S0 S : St} {k : Nat} {p p' : Pl} {ds : List Plc} {xf xt yf yt v : Nat} (h : Wrote B S0 S k p ds xf xt yf yt v p') {m : Nat} (hm : m ≠ k) : S.ps[m]? = S0.ps[m]? := by
  rw [h.ps, List.getElem?_set_ne (fun e => hm e.symm)]
theorem Wrote.alone {B : Nat} {S0 S : St} {k : Nat} {p p' : Pl} {ds : List Plc} {xf xt yf yt v i j : Nat} (h : Wrote B S0 S k p ds xf xt yf yt v p') (hk : S0.ps[k]? = some p) (hij : ¬ On ds i j) : aloneP S p' i j ↔ aloneP S0 p i j := by
  have e := h.out i j hij
  have hc : ∀ t, cnt S.ps (i, j) t = cnt S0.ps (i, j) t := fun t => by
    have := cnt_set S0.ps k p p' hk (i, j) t
    simp only [e] at this
    rw [h.ps]
    omega
  unfold aloneP
  simp only [e, hc]
theorem on_snoc {ds : List Plc} {i j : Nat} {hij : (i, j).1 < 2048 ∧ (i, j).2 < 2048} {i' j' : Nat} : On (ds ++ [(⟨(i, j), hij⟩ : Plc)]) i' j' ↔ On ds i' j' ∨ (i' = i ∧ j' = j) := by
  constructor
  · rintro ⟨h, hm⟩
    rcases List.mem_append.1 hm with h1 | h1
    · exact Or.inl ⟨h, h1⟩
    · rw [List.mem_singleton] at h1
      cases h1
      exact Or.inr ⟨rfl, rfl⟩
  · rintro (⟨h, hm⟩ | ⟨rfl, rfl⟩)
    · exact ⟨h, by simp [hm]⟩
    · exact ⟨hij, by simp⟩
theorem filled_at (f : Nat → Nat) (xf xt yf yt v i j x y : Nat) (hx : x < 16) (hy : y < 16) :
    (Rect xf xt yf yt (i * 16 + x) (j * 16 + y) → filled f (xf - i * 16) (min ((xt : Int) - (i : Int) * 16) 16) (yf - j * 16) (min ((yt : Int) - (j : Int) * 16) 16) v (y * 16 + x) = v) ∧
    (¬ Rect xf xt yf yt (i * 16 + x) (j * 16 + y) → filled f (xf - i * 16) (min ((xt : Int) - (i : Int) * 16) 16) (yf - j * 16) (min ((yt : Int) - (j : Int) * 16) 16) v (y * 16 + x) = f (y * 16 + x)) := by
  have e1 : (y * 16 + x) % 16 = x := by omega
  have e2 : (y * 16 + x) / 16 = y := by omega
  unfold filled Rect
  rw [e1, e2]
  constructor
  · intro h
    rw [if_pos (by omega)]
  · intro h
    rw [if_neg (by omega)]
/-- One place more. -/
theorem Wrote.step {w0 w w1 : World} {S0 S S1 : St} {k : Nat} {p p' : Pl} {ds : List Plc} {xf xt yf yt v i j t' : Nat} {hij : (i, j).1 < 2048 ∧ (i, j).2 < 2048} (h : Wrote w0.heap.size S0 S k p ds xf xt yf yt v p') (hk : S0.ps[k]? = some p) (hS : Rep w S) (hB : w0.heap.size ≤ w.heap.size) (hn : ¬ On ds i j)
    (ho : Owned w.heap.size S k p' i j t' S1) (h1 : Rep w1 S1) :
    ∃ p'', Wrote w0.heap.size S0 (S1.paint t' (filled (S1.pix t') (xf - i * 16) (min ((xt : Int) - (i : Int) * 16) 16) (yf - j * 16) (min ((yt : Int) - (j : Int) * 16) 16) v)) k p (ds ++ [⟨(i, j), hij⟩]) xf xt yf yt v p'' := by
  have hk' := h.here hk
  have hal := h.alone hk hn
  obtain ⟨fr, f1, f2, f3⟩ := h.live
  have nsn := needs_snoc S0 p ds ⟨(i, j), hij⟩
  rcases ho with ⟨ha, hT, rfl⟩ | ⟨hna, ht', rfl⟩
  · -- alone
    obtain ⟨t0, ht0, hc0⟩ := ha
    rw [hT] at ht0
    cases ht0
    have hat := hS.at_ k p' hk' i j t' hT
    refine ⟨p', h.A, h.cap, h.ps, h.pb, h.mb, h.W, h.H, fun i1 j1 hn1 => h.out i1 j1 (fun e => hn1 (on_snoc.2 (Or.inl e))), fun i1 j1 hon => ?_, fun i1 j1 x y hx hy => ?_, fun m q hm hq i1 j1 => ?_, ⟨fr, f1, ?_, f3⟩⟩
    · rcases on_snoc.1 hon with e | ⟨rfl, rfl⟩
      · exact h.on i1 j1 e
      · exact ⟨t', hT, Or.inl ⟨hal.1 ⟨t', hT, hc0⟩, (h.out _ _ hn) ▸ hT⟩⟩
    · have hm := h.mine i1 j1 x y hx hy
      by_cases e : i1 = i ∧ j1 = j
      · obtain ⟨rfl, rfl⟩ := e
        have e1 : pixAt (S1.paint t' (filled (S1.pix t') (xf - i1 * 16) (min ((xt : Int) - (i1 : Int) * 16) 16) (yf - j1 * 16) (min ((yt : Int) - (j1 : Int) * 16) 16) v)) p' i1 j1 (y * 16 + x) = filled (S1.pix t') (xf - i1 * 16) (min ((xt : Int) - (i1 : Int) * 16) 16) (yf - j1 * 16) (min ((yt : Int) - (j1 : Int) * 16) 16) v (y * 16 + x) := by
          simp [pixAt, hT, St.paint]
        have e2 : pixAt S1 p' i1 j1 (y * 16 + x) = S1.pix t' (y * 16 + x) := by simp [pixAt, hT]
        have hfl := filled_at (S1.pix t') xf xt yf yt v i1 j1 x y hx hy
        rw [e1]
        refine ⟨fun hr => hfl.1 hr.2, fun hr => ?_⟩
        rw [hfl.2 (fun hr2 => hr ⟨on_snoc.2 (Or.inr ⟨rfl, rfl⟩), hr2⟩), ← e2]
        exact hm.2 (fun hr2 => hn hr2.1)
      · have e1 : pixAt (S1.paint t' (filled (S1.pix t') (xf - i * 16) (min ((xt : Int) - (i : Int) * 16) 16) (yf - j * 16) (min ((yt : Int) - (j : Int) * 16) 16) v)) p' i1 j1 = pixAt S1 p' i1 j1 := by
          unfold pixAt
          cases e3 : p'.T i1 j1 with
          | none => rfl
          | some t =>
            have : t ≠ t' := fun e4 => by
              subst e4
              have := (hS.at_ k p' hk' i1 j1 t e3).2.1
              rw [hat.2.1] at this
              cases this
              exact e ⟨rfl, rfl⟩
            simp [St.paint, this]
        rw [e1]
        refine ⟨fun hr => hm.1 ⟨(on_snoc.1 hr.1).resolve_right e, hr.2⟩, fun hr => hm.2 (fun hr2 => hr ⟨on_snoc.2 (Or.inl hr2.1), hr2.2⟩)⟩
    · have e1 : pixAt (S1.paint t' (filled (S1.pix t') (xf - i * 16) (min ((xt : Int) - (i : Int) * 16) 16) (yf - j * 16) (min ((yt : Int) - (j : Int) * 16) 16) v)) q i1 j1 = pixAt S1 q i1 j1 := by
        have hq' : S1.ps[m]? = some q := (h.there hm).trans hq
        unfold pixAt
        cases e3 : q.T i1 j1 with
        | none => rfl
        | some t =>
          have : t ≠ t' := fun e4 => by
            subst e4
            have h2 := (hS.at_ m q hq' i1 j1 t e3).2.1
            rw [hat.2.1] at h2
            cases h2
            have := cnt_two (h := (i, j)) hk' hq' hm hT e3
            omega
          simp [St.paint, this]
      rw [e1]
      exact h.pix m q hm hq i1 j1
    · rw [f2, nsn.1 (hal.1 ⟨t', hT, hc0⟩)]
  · -- a new tile
    have hl : k < S.ps.length := (List.getElem?_eq_some_iff.1 hk').1
    have hold : ∀ (m : Nat) q, S.ps[m]? = some q → ∀ i j, q.T i j ≠ some t' := fun m q hq i j e => by
      have := (hS.tile t' (hS.at_ m q hq i j t' e).1).lt
      omega
    have hpix : ∀ (m : Nat) q, S.ps[m]? = some q → ∀ i1 j1 g, pixAt ((S.own k p' i j t' (pixAt S p' i j)).paint t' g) q i1 j1 = pixAt S q i1 j1 := by
      intro m q hq i1 j1 g
      unfold pixAt
      cases e3 : q.T i1 j1 with
      | none => rfl
      | some t =>
        have : t ≠ t' := fun e4 => hold m q hq i1 j1 (e4 ▸ e3)
        simp [St.paint, St.own, this]
    have hown : (S.own k p' i j t' (pixAt S p' i j)).pix t' = pixAt S p' i j := by simp [St.own]
    rw [hown]
    refine ⟨{ p' with T := upd p'.T i j t', L := if p'.T i j = none then p'.L ++ [(i, j)] else p'.L }, h.A, h.cap, ?_, h.pb, h.mb, h.W, h.H, fun i1 j1 hn1 => ?_, fun i1 j1 hon => ?_, fun i1 j1 x y hx hy => ?_, fun m q hm hq i1 j1 => ?_, ⟨fr ++ [t'], ?_, ?_, ?_⟩⟩
    · show S.ps.set k _ = _
      rw [h.ps, List.set_set]
    · have e : ¬ (i1 = i ∧ j1 = j) := fun e => hn1 (on_snoc.2 (Or.inr e))
      simp only [upd]
      rw [if_neg e]
      exact h.out i1 j1 (fun e => hn1 (on_snoc.2 (Or.inl e)))
    · by_cases e : i1 = i ∧ j1 = j
      · obtain ⟨rfl, rfl⟩ := e
        exact ⟨t', by simp [upd], Or.inr ⟨fun ha => hna (hal.2 ha), Nat.le_trans hB ht'⟩⟩
      · obtain ⟨t, q1, q2⟩ := h.on i1 j1 ((on_snoc.1 hon).resolve_right e)
        exact ⟨t, by simp only [upd]; rw [if_neg e]; exact q1, q2⟩
    · have hm := h.mine i1 j1 x y hx hy
      by_cases e : i1 = i ∧ j1 = j
      · obtain ⟨rfl, rfl⟩ := e
        have hfl := filled_at (pixAt S p' i1 j1) xf xt yf yt v i1 j1 x y hx hy
        have e1 : ∀ g, pixAt ((S.own k p' i1 j1 t' (pixAt S p' i1 j1)).paint t' g) { p' with T := upd p'.T i1 j1 t', L := if p'.T i1 j1 = none then p'.L ++ [(i1, j1)] else p'.L } i1 j1 = g := fun g => by simp [pixAt, upd, St.paint]
        rw [e1]
        refine ⟨fun hr => hfl.1 hr.2, fun hr => ?_⟩
        rw [hfl.2 (fun hr2 => hr ⟨on_snoc.2 (Or.inr ⟨rfl, rfl⟩), hr2⟩)]
        exact hm.2 (fun hr2 => hn hr2.1)
      · have e1 : ∀ g, pixAt ((S.own k p' i j t' (pixAt S p' i j)).paint t' g) { p' with T := upd p'.T i j t', L := if p'.T i j = none then p'.L ++ [(i, j)] else p'.L } i1 j1 = pixAt S p' i1 j1 := fun g => by
          rw [← hpix k p' hk' i1 j1 g]
          have e2 : upd p'.T i j t' i1 j1 = p'.T i1 j1 := by simp only [upd]; rw [if_neg e]
          simp only [pixAt, e2]
        rw [e1]
        refine ⟨fun hr => hm.1 ⟨(on_snoc.1 hr.1).resolve_right e, hr.2⟩, fun hr => hm.2 (fun hr2 => hr ⟨on_snoc.2 (Or.inl hr2.1), hr2.2⟩)⟩
    · rw [hpix m q ((h.there hm).trans hq) i1 j1]
      exact h.pix m q hm hq i1 j1
    · show S.live ++ [t'] = _
      rw [f1, List.append_assoc]
    · rw [List.length_append, List.length_singleton, f2, nsn.2 (fun ha => hna (hal.2 ha))]
    · intro t ht
      rcases List.mem_append.1 ht with e | e
      · exact f3 t e
      · rw [List.mem_singleton] at e
        rw [e]
        exact Nat.le_trans hB ht'
theorem Wrote.foot {B : Nat} {S0 S : St} {k : Nat} {p p' : Pl} {ds : List Plc} {xf xt yf yt v b : Nat} (h : Wrote B S0 S k p ds xf xt yf yt v p') (hk : S0.ps[k]? = some p) (hb : Foot S b) : Foot S0 b ∨ B ≤ b := by
  rcases hb with rfl | ⟨m, q, hq, hb⟩ | hb
  · exact Or.inl (Or.inl h.A)
  · by_cases e : m = k
    · subst e
      rw [h.here hk] at hq
      cases hq
      exact Or.inl (Or.inr (Or.inl ⟨m, p, hk, by rw [h.mb, h.pb] at hb; exact hb⟩))
    · exact Or.inl (Or.inr (Or.inl ⟨m, q, (h.there e) ▸ hq, hb⟩))
  · obtain ⟨fr, f1, -, f3⟩ := h.live
    rw [f1] at hb
    rcases List.mem_append.1 hb with hb | hb
    · exact Or.inl (Or.inr (Or.inr hb))
    · exact Or.inr (f3 b hb)
theorem needs_append (S : St) (p : Pl) (l l' : List Plc) : needs S p (l ++ l') = needs S p l + needs S p l' := by simp [needs]
theorem Wrote.room {B : Nat} {S0 S : St} {k : Nat} {p p' : Pl} {ds rest : List Plc} {q : Plc} {xf xt yf yt v : Nat} (h : Wrote B S0 S k p ds xf xt yf yt v p') (hk : S0.ps[k]? = some p) (hn : ¬ On ds q.1.1 q.1.2) (hr : S0.live.length ≤ S0.cap) (hneed : needs S0 p (ds ++ q :: rest) ≤ S0.free) :
    aloneP S p' q.1.1 q.1.2 ∨ S.live.length < S.cap := by
  by_cases ha : aloneP S0 p q.1.1 q.1.2
  · exact Or.inl ((h.alone hk hn).2 ha)
  · obtain ⟨fr, f1, f2, -⟩ := h.live
    have e : needs S0 p (ds ++ q :: rest) = needs S0 p (ds ++ [q]) + needs S0 p rest := by
      rw [← needs_append]; simp
    have e2 := (needs_snoc S0 p ds q).2 ha
    refine Or.inr ?_
    rw [f1, h.cap, List.length_append, f2]
    unfold St.free at hneed
    omega
/-- A block of another type is none of the state's. -/
theorem Rep.not_foot {w : World} {S : St} (h : Rep w S) {b : Nat} {c : Array Value} {t : TypeId} {f : Nat × Nat} (hb : w.heap[b]? = some (.cells c t f)) (ht : t = 70 ∨ t = 82) : ¬ Foot S b := by
  rintro (rfl | ⟨m, q, hq, rfl | rfl⟩ | hl)
  · have := h.arena
    rw [hb] at this
    cases this
    exact absurd ht (by decide)
  · exact (h.plane m q hq).2.1.notCells hb
  · have := (h.plane m q hq).1
    rw [PlaneAt, hb] at this
    cases this
    exact absurd ht (by decide)
  · obtain ⟨c', h1, h2, -⟩ := h.tile b hl
    rw [hb] at h1
    cases h1
    exact absurd ht (by decide)
/-- Where a fill stands behind so many rounds. -/
def FillAt (w0 : World) (S0 : St) (k : Nat) (p : Pl) (ds : List Plc) (xf xt yf yt v : Nat) (wr : World) : Prop :=
  ∃ S p', Wrote w0.heap.size S0 S k p ds xf xt yf yt v p' ∧ Rep wr S ∧ Keeps (Foot S0) w0 wr
theorem FillAt.later {w0 wr w' : World} {S0 : St} {k : Nat} {p : Pl} {ds : List Plc} {xf xt yf yt v : Nat} (h : FillAt w0 S0 k p ds xf xt yf yt v wr) (hk : Keeps none' wr w') : FillAt w0 S0 k p ds xf xt yf yt v w' := by
  obtain ⟨S, p', h1, h2, h3⟩ := h
  exact ⟨S, p', h1, h2.later hk, h3.trans hk (fun _ _ h => h.elim)⟩
/-- A round's first call: the tile; then its fill. -/
theorem FillAt.own {w0 wr : World} {S0 : St} {k : Nat} {p : Pl} {ds rest : List Plc} {i j : Nat} {hij : (i, j).1 < 2048 ∧ (i, j).2 < 2048} {xf xt yf yt v : Nat} (h : FillAt w0 S0 k p ds xf xt yf yt v wr) (hk : S0.ps[k]? = some p) (hS0 : Rep w0 S0)
    (hnd : (ds ++ (⟨(i, j), hij⟩ : Plc) :: rest).Nodup) (hneed : needs S0 p (ds ++ (⟨(i, j), hij⟩ : Plc) :: rest) ≤ S0.free) (hi : i * 16 < p.W) (hj : j * 16 < p.H) (hv : v ≤ 4294967295) :
    Calls Try.prog 33 #[.pointer (some ⟨p.pb, 0, none⟩), .agg #[.int .i64 (i : Int), .int .i64 (j : Int)]] wr fun e w1 => ∃ t' f, e = .returned (.pointer (some ⟨t', 0, none⟩)) ∧ (∀ b c ty fz, ty = 70 ∨ ty = 82 → wr.heap[b]? = some (.cells c ty fz) → b ≠ t' ∧ w1.heap[b]? = wr.heap[b]?) ∧ wr.heap.size ≤ w1.heap.size ∧
      ∀ w2, Keeps none' w1 w2 → TileAt w2 t' 1 f ∧ ∀ w3, TileAt w3 t' 1 (filled f (xf - i * 16) (min ((xt : Int) - (i : Int) * 16) 16) (yf - j * 16) (min ((yt : Int) - (j : Int) * 16) 16) v) → Keeps (fun b => b = t') w2 w3 →
        FillAt w0 S0 k p (ds ++ [(⟨(i, j), hij⟩ : Plc)]) xf xt yf yt v w3 := by
  obtain ⟨S, p', h1, h2, h3⟩ := h
  have hk' := h1.here hk
  have hn : ¬ On ds i j := by
    rintro ⟨hm, hmem⟩
    exact (List.nodup_append.1 hnd).2.2 _ hmem _ List.mem_cons_self rfl
  have hro := h1.room (q := ⟨(i, j), hij⟩) hk hn hS0.room hneed
  rw [← h1.pb]
  refine (own_any wr S h2 k p' hk' i j (by rw [h1.W]; exact hi) (by rw [h1.H]; exact hj) hro).mono ?_
  rintro e w1 ⟨t', S1, ho, rfl, h4, h5⟩
  obtain ⟨-, hl, hh, hc⟩ := owned_tile h2 hk' ho h4
  have hT := h4.tile t' hl
  rw [hh, hc] at hT
  have hkk : Keeps (fun b => Foot S0 b ∨ w0.heap.size ≤ b) wr w1 := h5.mono (fun b _ hb => h1.foot hk hb)
  have hB : w0.heap.size ≤ wr.heap.size := h3.size
  refine ⟨t', S1.pix t', rfl, fun b c ty fz hty hb => ?_, h5.size, fun w2 hk2 => ⟨hT.later hk2, fun w3 hT3 hk3 => ?_⟩⟩
  · have hnf := h2.not_foot hb hty
    have hbl := lt_of_block hb
    have e1 := h5.block b hbl hnf
    refine ⟨fun e => ?_, e1⟩
    subst e
    exact h4.not_foot (e1.trans hb) hty (Or.inr (Or.inr hl))
  obtain ⟨p'', hw⟩ := h1.step (w := wr) (hij := hij) hk h2 hB hn ho h4
  refine ⟨_, p'', hw, (h4.later hk2).paint hl ?_ (by rw [hh, hc]; exact hT3) hk3, ?_⟩
  · intro m
    unfold filled
    split
    · exact hv
    · exact h4.small t' hl m
  · have hft : Foot S0 t' ∨ w0.heap.size ≤ t' := by
      rcases ho with ⟨-, e, rfl⟩ | ⟨-, e, -⟩
      · exact h1.foot hk (Or.inr (Or.inr hl))
      · exact Or.inr (Nat.le_trans hB e)
    have k1 : Keeps (Foot S0) w0 w1 := h3.trans hkk (fun b hb hs => hs.resolve_right (by omega))
    have k2 := k1.trans hk2 (fun _ _ h => h.elim)
    exact k2.trans hk3 (fun b hb hs => by
      subst hs
      exact hft.resolve_right (by omega))
end Go.Proofs.Ytgonpaofickffaa
