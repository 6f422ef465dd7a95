/- Texts of a layer, one behind the other. -/
import Derived.Test.YtfcpbpfemmdklaaZK
import Derived.Test.YtfcpbpfemmdklaaZD
/- A layer turned where it stands: its numbers, its mask, its params. -/
namespace Go.Proofs.Ytfcpbpfemmdklaa
open Go.RowKit Go.Lib
set_option linter.unusedSimpArgs false
set_option linter.unusedVariables false

theorem count_out {l : List Nat} {n b : Nat} (h : ∀ x ∈ l, x < n) (hb : n ≤ b) : l.count b = 0 := List.count_eq_zero.2 (fun hm => by have := h b hm; omega)
theorem count_in {l : List Nat} {n b : Nat} (h : ∀ x ∈ l, n ≤ x) (hb : b < n) : l.count b = 0 := List.count_eq_zero.2 (fun hm => by have := h b hm; omega)
/-- A list of a layer that is the old one, or lies in a block that is new. -/
def OldNew (w w' : World) (e : Nat) (m m' : Hd) (vs vs' : List Value) : Prop := (m' = m ∧ vs' = vs) ∨ OwnR w.heap.size w' e 1 m' vs'
theorem turn_whole {B : Nat} {w w' : World} {R : Nat} {x y z : Int} {C : List Frm} {h : Hd} {pre post : List Loc} {d d' : Dat} {p m q k m' q' : Hd} {kids : List Loc}
    (W : Whole B w R x y z (plugH C h) (plugL C h (pre ++ .mk d p m q k kids :: post)))
    (row : OwnR B w' 48 19 h (flat (pre ++ .mk d' p m' q' k kids :: post))) (kk : Keeps (fun b => b = h.b) w w') (hp : d'.p = d.p)
    (om : OldNew w w' 5 m m' (bytes d.mask) (bytes d'.mask)) (oq : OldNew w w' 3 q q' (ints d.pars) (ints d'.pars)) (one : m' = m ∨ q' = q) (hB : B ≤ w.heap.size) :
    Whole B w' R x y z (plugH C h) (plugL C h (pre ++ .mk d' p m' q' k kids :: post)) := by
  obtain ⟨rowh, ownl, c0⟩ := W.ctx
  have nd := W.nd
  have out := W.out'
  have hlt := W.lt
  have hRlt := lt_of_block W.doc
  have hb : h.blk = [h.b] := by
    obtain ⟨g, n, c, rfl⟩ := row_some rowh
    rfl
  have hbm : h.b ∈ h.blk := by rw [hb]; exact List.mem_singleton.2 rfl
  rw [own_append, own_cons] at ownl
  obtain ⟨o1, o2, o3, o4, o5, o6, o7⟩ := ownl
  rw [blks_append, blks_cons] at nd out hlt
  have ndc : ∀ b, List.count b h.blk + (List.count b (blks pre) + (List.count b p.blk + (List.count b m.blk + (List.count b q.blk + (List.count b k.blk + (List.count b (blks kids) + List.count b (blks post))))))) + List.count b (outs C) ≤ 1 := fun b => by
    have h1 := List.nodup_iff_count.1 nd b
    simp only [List.count_append] at h1
    exact h1
  have far : ∀ b, b ∈ blks pre ∨ b ∈ p.blk ∨ b ∈ m.blk ∨ b ∈ q.blk ∨ b ∈ k.blk ∨ b ∈ blks kids ∨ b ∈ blks post ∨ b ∈ outs C → ¬ b = h.b := by
    rintro b hm rfl
    have h1 := ndc h.b
    have h2 : 1 ≤ List.count h.b h.blk := List.count_pos_iff.2 hbm
    rcases hm with hm | hm | hm | hm | hm | hm | hm | hm <;> (have h3 := List.count_pos_iff.2 hm; omega)
  have om' : OwnR B w' 5 1 m' (bytes d'.mask) := by
    rcases om with ⟨rfl, e⟩ | o
    · rw [e]; exact o3.keepB kk (fun b hb => far b (.inr (.inr (.inl hb))))
    · exact o.low hB
  have oq' : OwnR B w' 3 1 q' (ints d'.pars) := by
    rcases oq with ⟨rfl, e⟩ | o
    · rw [e]; exact o4.keepB kk (fun b hb => far b (.inr (.inr (.inr (.inl hb)))))
    · exact o.low hB
  have lt0 : ∀ b, b ∈ h.blk ∨ b ∈ blks pre ∨ b ∈ p.blk ∨ b ∈ m.blk ∨ b ∈ q.blk ∨ b ∈ k.blk ∨ b ∈ blks kids ∨ b ∈ blks post ∨ b ∈ outs C → b < w.heap.size := by
    intro b hm
    refine (hlt b ?_).2
    simp only [List.mem_append]
    rcases hm with hm | hm | hm | hm | hm | hm | hm | hm | hm <;> simp [hm]
  have cm : ∀ b, (b < w.heap.size → List.count b m'.blk ≤ List.count b m.blk) ∧ (w.heap.size ≤ b → List.count b m'.blk ≤ 1 ∧ (m' = m → List.count b m'.blk = 0)) := by
    intro b
    have e0 : w.heap.size ≤ b → List.count b m.blk = 0 := fun hb => count_out (fun x hx => lt0 x (.inr (.inr (.inr (.inl hx))))) hb
    refine ⟨fun hb => ?_, fun hb => ⟨List.nodup_iff_count.1 (Hd.blk_nodup m') b, fun e => by rw [e]; exact e0 hb⟩⟩
    rcases om with ⟨e, -⟩ | o
    · rw [e]; exact Nat.le_refl _
    · rw [count_in (fun x hx => (o.range x hx).1) hb]; exact Nat.zero_le _
  have cq : ∀ b, (b < w.heap.size → List.count b q'.blk ≤ List.count b q.blk) ∧ (w.heap.size ≤ b → List.count b q'.blk ≤ 1 ∧ (q' = q → List.count b q'.blk = 0)) := by
    intro b
    have e0 : w.heap.size ≤ b → List.count b q.blk = 0 := fun hb => count_out (fun x hx => lt0 x (.inr (.inr (.inr (.inr (.inl hx)))))) hb
    refine ⟨fun hb => ?_, fun hb => ⟨List.nodup_iff_count.1 (Hd.blk_nodup q') b, fun e => by rw [e]; exact e0 hb⟩⟩
    rcases oq with ⟨e, -⟩ | o
    · rw [e]; exact Nat.le_refl _
    · rw [count_in (fun x hx => (o.range x hx).1) hb]; exact Nat.zero_le _
  have mm : ∀ b ∈ m'.blk, b ∈ m.blk ∨ w.heap.size ≤ b := by
    intro b hb
    rcases om with ⟨e, -⟩ | o
    · exact .inl (e ▸ hb)
    · exact .inr (o.range b hb).1
  have mq : ∀ b ∈ q'.blk, b ∈ q.blk ∨ w.heap.size ≤ b := by
    intro b hb
    rcases oq with ⟨e, -⟩ | o
    · exact .inl (e ▸ hb)
    · exact .inr (o.range b hb).1
  have outl : ∀ b, b ∈ outs C → b < w.heap.size := fun b hb => lt0 b (.inr (.inr (.inr (.inr (.inr (.inr (.inr (.inr hb))))))))
  refine Whole.swap0 _ W kk ?_ row ?_ ?_ ?_
  · rintro b (rfl | hb) e
    · exact out (by rw [e]; simp [hbm])
    · exact far b (.inr (.inr (.inr (.inr (.inr (.inr (.inr hb))))))) e
  · rw [own_append, own_cons]
    exact ⟨o1.keep kk (fun b hb => far b (.inl hb)), by rw [hp]; exact o2.keepB kk (fun b hb => far b (.inr (.inl hb))), om', oq', o5.keepB kk (fun b hb => far b (.inr (.inr (.inr (.inr (.inl hb)))))), o6.keep kk (fun b hb => far b (.inr (.inr (.inr (.inr (.inr (.inl hb))))))), o7.keep kk (fun b hb => far b (.inr (.inr (.inr (.inr (.inr (.inr (.inl hb)))))))) ⟩
  · rw [blks_append, blks_cons, List.nodup_iff_count]
    intro b
    simp only [List.count_append]
    have h1 := ndc b
    by_cases hb : b < w.heap.size
    · have h2 := (cm b).1 hb
      have h3 := (cq b).1 hb
      omega
    · have hb' : w.heap.size ≤ b := by omega
      have z1 : List.count b h.blk = 0 := count_out (fun x hx => lt0 x (.inl hx)) hb'
      have z2 : List.count b (blks pre) = 0 := count_out (fun x hx => lt0 x (.inr (.inl hx))) hb'
      have z3 : List.count b p.blk = 0 := count_out (fun x hx => lt0 x (.inr (.inr (.inl hx)))) hb'
      have z4 : List.count b k.blk = 0 := count_out (fun x hx => lt0 x (.inr (.inr (.inr (.inr (.inr (.inl hx))))))) hb'
      have z5 : List.count b (blks kids) = 0 := count_out (fun x hx => lt0 x (.inr (.inr (.inr (.inr (.inr (.inr (.inl hx)))))))) hb'
      have z6 : List.count b (blks post) = 0 := count_out (fun x hx => lt0 x (.inr (.inr (.inr (.inr (.inr (.inr (.inr (.inl hx))))))))) hb'
      obtain ⟨h2, h3⟩ := (cm b).2 hb'
      obtain ⟨h4, h5⟩ := (cq b).2 hb'
      rcases one with e | e
      · have := h3 e; omega
      · have := h5 e; omega
  · intro b hb
    rw [blks_append, blks_cons] at hb
    have hmem : (b ∈ (h.blk ++ (blks pre ++ (p.blk ++ (m.blk ++ (q.blk ++ (k.blk ++ (blks kids ++ blks post)))))))) ∨ w.heap.size ≤ b := by
      simp only [List.mem_append] at hb ⊢
      rcases hb with hb | hb | hb | hb | hb | hb | hb | hb
      · exact .inl (by simp [hb])
      · exact .inl (by simp [hb])
      · exact .inl (by simp [hb])
      · rcases mm b hb with hb | hb
        · exact .inl (by simp [hb])
        · exact .inr hb
      · rcases mq b hb with hb | hb
        · exact .inl (by simp [hb])
        · exact .inr hb
      · exact .inl (by simp [hb])
      · exact .inl (by simp [hb])
      · exact .inl (by simp [hb])
    rcases hmem with hm | hm
    · exact ⟨fun e => out (by rw [← e]; exact List.mem_append.2 (.inl hm)), fun e => (List.nodup_append.1 nd).2.2 b hm b e rfl⟩
    · exact ⟨by omega, fun e => by have := outl b e; omega⟩
/-- The cells of a row in which one layer has turned. -/
theorem flat_set (pre : List Loc) (d d' : Dat) (p m q k m' q' : Hd) (kids post : List Loc) (j : Nat) (u : Value) (hc : (cells19 d p m q k).set j u = cells19 d' p m' q' k) (hj : j < 19) :
    (flat (pre ++ .mk d p m q k kids :: post)).set (pre.length * 19 + j) u = flat (pre ++ .mk d' p m' q' k kids :: post) := by
  rw [flat_append, flat_append, flat, flat]
  rw [List.set_append_right _ _ (by rw [flat_length]; omega), flat_length, show pre.length * 19 + j - pre.length * 19 = j by omega]
  rw [List.set_append_left _ _ (by rw [Loc.cells_length]; exact hj)]
  show flat pre ++ ((cells19 d p m q k).set j u ++ flat post) = _
  rw [hc]
  rfl
theorem flat_len19 (pre post : List Loc) (d : Dat) (p m q k : Hd) (kids : List Loc) (j : Nat) (hj : j < 19) : pre.length * 19 + j < (flat (pre ++ .mk d p m q k kids :: post)).length := by
  rw [flat_length, List.length_append, List.length_cons]
  omega
theorem oldnew_set {w0 w : World} {e : Nat} {m m' : Hd} {vs vs' : List Value} {A i : Nat} {u : Value} (o : OldNew w0 w e m m' vs vs') (hA : A < w0.heap.size) : OldNew w0 (w.setCell ⟨A, i, none⟩ u) e m m' vs vs' := by
  rcases o with h | h
  · exact .inl h
  · exact .inr (h.set hA u)
/-- One cell of a layer turned. -/
theorem turn1 {B : Nat} {w0 w : World} {R : Nat} {x y z : Int} {C : List Frm} {h : Hd} {pre post : List Loc} {d d' : Dat} {p m q k m' q' : Hd} {kids : List Loc} {j : Nat} {u : Value}
    (W : Whole B w0 R x y z (plugH C h) (plugL C h (pre ++ .mk d p m q k kids :: post))) (kk : Keeps none' w0 w) (hj : j < 19) (hu : u.oneCell' = true)
    (hc : (cells19 d p m q k).set j u = cells19 d' p m' q' k) (hp : d'.p = d.p)
    (om : OldNew w0 w 5 m m' (bytes d.mask) (bytes d'.mask)) (oq : OldNew w0 w 3 q q' (ints d.pars) (ints d'.pars)) (one : m' = m ∨ q' = q) (hB : B ≤ w0.heap.size) :
    Whole B (w.setCell ⟨h.b, h.o + pre.length * 19 + j, none⟩ u) R x y z (plugH C h) (plugL C h (pre ++ .mk d' p m' q' k kids :: post)) ∧ Keeps (fun b => b = h.b) w0 (w.setCell ⟨h.b, h.o + pre.length * 19 + j, none⟩ u) := by
  have k2 : Keeps (fun b => b = h.b) w0 (w.setCell ⟨h.b, h.o + pre.length * 19 + j, none⟩ u) := (keeps_weak kk (fun q _ e => e.elim)).trans (keeps_at w h.b _ u) (fun i _ e => e)
  have hlt : h.b < w0.heap.size := by
    obtain ⟨rowh, -, -⟩ := W.ctx
    obtain ⟨g, n, c, rfl⟩ := row_some rowh
    exact (rowh.range g (List.mem_singleton.2 rfl)).2
  refine ⟨turn_whole W ?_ k2 hp (oldnew_set om hlt) (oldnew_set oq hlt) one hB, k2⟩
  obtain ⟨rowh, -, -⟩ := W.ctx
  have r2 := (rowh.later kk).set1 (i := pre.length * 19 + j) (v := u) (w' := w.setCell ⟨h.b, h.o + pre.length * 19 + j, none⟩ u) (flat_len19 pre post d p m q k kids j hj) hu (by rw [Nat.add_assoc])
  rw [flat_set pre d d' p m q k m' q' kids post j u hc hj] at r2
  exact r2
/-- One number of a layer turned; its lists stay. -/
theorem turn0 {B : Nat} {w0 w : World} {R : Nat} {x y z : Int} {C : List Frm} {h : Hd} {pre post : List Loc} {d d' : Dat} {p m q k : Hd} {kids : List Loc} {j : Nat} {u : Value}
    (W : Whole B w0 R x y z (plugH C h) (plugL C h (pre ++ .mk d p m q k kids :: post))) (kk : Keeps none' w0 w) (hj : j < 19) (hu : u.oneCell' = true)
    (hc : (cells19 d p m q k).set j u = cells19 d' p m q k) (hp : d'.p = d.p) (hm : d'.mask = d.mask) (hq : d'.pars = d.pars) (hB : B ≤ w0.heap.size) :
    Whole B (w.setCell ⟨h.b, h.o + pre.length * 19 + j, none⟩ u) R x y z (plugH C h) (plugL C h (pre ++ .mk d' p m q k kids :: post)) ∧ Keeps (fun b => b = h.b) w0 (w.setCell ⟨h.b, h.o + pre.length * 19 + j, none⟩ u) :=
  turn1 W kk hj hu hc hp (.inl ⟨rfl, by rw [hm]⟩) (.inl ⟨rfl, by rw [hq]⟩) (.inl rfl) hB
end Go.Proofs.Ytfcpbpfemmdklaa

/- Opacity and mode of a layer (34), hiding it (35). (printed by genZV.py) -/
namespace Go.Proofs.Ytfcpbpfemmdklaa
open Go.RowKit Go.Lib
set_option linter.unusedSimpArgs false
set_option linter.unusedVariables false

def uptoB (n most : Int) : Bool := decide (0 ≤ n) && decide (n ≤ most)
def setOM (d : Dat) (n m : Int) : Dat := { d with op := n, mode := m }
def setHid (d : Dat) (b : Bool) : Dat := { d with hid := b }
/-- A layer's cells, where it stands in a document. -/
structure LaySpot (B : Nat) (w : World) (R : Nat) (h : Hd) (i : Nat) (d : Dat) (lp lm lq lk : Hd) : Prop where
  cell : ∀ j u, (cells19 d lp lm lq lk)[j]? = some u → w.cell? ⟨h.b, h.o + i * 19 + j, none⟩ = some u
  fr : ∀ j, w.frozen? ⟨h.b, j, none⟩ = false
  lt : h.b < w.heap.size
  low : B ≤ h.b
  ne : h.b ≠ R
theorem LaySpot.later {B : Nat} {w w' : World} {R : Nat} {h : Hd} {i : Nat} {d : Dat} {lp lm lq lk : Hd} (s : LaySpot B w R h i d lp lm lq lk) (k : Keeps none' w w') : LaySpot B w' R h i d lp lm lq lk :=
  ⟨fun j u hj => k.cell (s.cell j u hj), fun j => by
    have h1 := s.fr j
    unfold World.frozen? at h1 ⊢
    rw [show w'.heap[h.b]? = w.heap[h.b]? from k.later _ s.lt]
    exact h1, Nat.lt_of_lt_of_le s.lt k.size, s.low, s.ne⟩
theorem lay_spot {B : Nat} {w : World} {R : Nat} {x y z : Int} {C : List Frm} {h : Hd} {pre post : List Loc} {d : Dat} {lp lm lq lk : Hd} {kids : List Loc} (W : Whole B w R x y z (plugH C h) (plugL C h (pre ++ .mk d lp lm lq lk kids :: post))) : LaySpot B w R h pre.length d lp lm lq lk := by
  obtain ⟨rowh, ownl, -⟩ := W.ctx
  have hlt := W.lt
  have out := W.out'
  have hn : 0 < h.n := by
    have h1 := rowh.1.1
    rw [flat_length] at h1
    simp at h1
    omega
  obtain ⟨g, c, cur, e, hB, hg, hc, hs, ht⟩ := rowh.some hn
  have hfl := flat_at _ _ _ (mid_at pre (.mk d lp lm lq lk kids) post)
  obtain ⟨ha, hnn, hcc⟩ : h.a = some ⟨g, 0, none⟩ ∧ True ∧ True := ⟨by rw [e], trivial, trivial⟩
  have hb : h.b = g := by unfold Hd.b; rw [ha]
  have ho : h.o = 0 := by unfold Hd.o; rw [ha]
  have hbm : g ∈ h.blk := by unfold Hd.blk; rw [ha]; exact List.mem_singleton.2 rfl
  have hcl : ∀ j u, (flat (pre ++ .mk d lp lm lq lk kids :: post))[j]? = some u → w.cell? ⟨g, 0 + j, none⟩ = some u := (rowh.read.1.1.at' _ ha).2.2
  refine ⟨fun j u hj => ?_, fun j => ?_, ?_, ?_, ?_⟩
  · rw [hb, ho, Nat.add_assoc]
    exact hcl _ _ (hfl j u hj)
  · rw [hb]; simp [World.frozen?, hg]
  · rw [hb]; exact lt_of_block hg
  · rw [hb]; exact hB
  · rw [hb]
    rintro rfl
    exact out (by simp [hbm])
def lookP (ls : List Lay) (id n m : Int) : Except Int (List Lay) :=
  match fnd id ls with
  | none => .error 40
  | some r => if (uptoB n 255 && uptoB m 11) = false then .error 32 else if (decide (r.d.kind = 2) && decide (m ≠ 0)) = true then .error 41 else
    .ok (plugP r.C (r.pre ++ .mk (setOM r.d n m) r.kids :: r.post))
def hideP (ls : List Lay) (id n : Int) : Except Int (List Lay) :=
  match fnd id ls with
  | none => .error 40
  | some r => if uptoB n 1 = false then .error 32 else .ok (plugP r.C (r.pre ++ .mk (setHid r.d (decide (n = 1))) r.kids :: r.post))
/-- A layer by its number, or none. -/
def layV (R : Nat) (h : Hd) (ls : List Loc) (id : Int) : Value := match findP id (sps 0 R 3 0 h.b h.o 0 ls) with
  | some X => .tuple #[.pointer (some ⟨X.b, X.o, none⟩), .int .i64 0]
  | none => .tuple #[.pointer none, .int .i64 40]
theorem lay57 (R : Nat) (x y z : Int) (h : Hd) (ls : List Loc) (id : Int) (w : World) (C : Dc w R x y z h) (D : DocV w h ls) (hc : cnt ls ≤ 1099511627776) :
    Calls Try.prog 57 #[.pointer (some ⟨R, 0, none⟩), .int .i64 id] w fun e w' => e = .returned (layV R h ls id) ∧ Keeps none' w w' := by
  refine (layer57 R x y z h ls id w C D hc).mono ?_
  rintro e w' ⟨he, k⟩
  refine ⟨?_, k⟩
  unfold layV
  revert he
  cases findP id (sps 0 R 3 0 h.b h.o 0 ls) <;> exact fun h => h
theorem lay_doc (id : Int) (R : Nat) (h : Hd) (ls : List Loc) :
    (fnd id (er ls) = none ∧ layV R h ls id = .tuple #[.pointer none, .int .i64 40]) ∨
    ∃ C pre l post h', fnd id (er ls) = some ⟨C.map Frm.er, er pre, l.dat, er l.kids, er post⟩ ∧ plugH C h' = h ∧ plugL C h' (pre ++ l :: post) = ls ∧ layV R h ls id = .tuple #[.pointer (some ⟨h'.b, h'.o + pre.length * 19, none⟩), .int .i64 0] := by
  unfold layV
  rcases find_doc id R h ls with ⟨a, b⟩ | ⟨C, pre, l, post, h', a1, a2, a3, a4⟩
  · exact .inl ⟨b, by rw [a]⟩
  · exact .inr ⟨C, pre, l, post, h', a2, a3, a4, by rw [a1]; rfl⟩
set_option maxRecDepth 100000 in
set_option maxHeartbeats 3200000 in
theorem look_no (B R : Nat) (x y z : Int) (h : Hd) (ls : List Loc) (e : PEd) (p s q : Hd) (w : World) (W : Whole B w R x y z h ls) {z0 : Int} (G : Good z0 (er ls)) (kv : layV R h ls e.id = .tuple #[.pointer none, .int .i64 40]) (pe : lookP (er ls) e.id e.n e.m = .error 40) :
    Calls Try.prog 34 #[.pointer (some ⟨R, 0, none⟩), edV e p s q] w fun en w' => Edited B w R x y z (lookP (er ls) e.id e.n e.m) en w' := by
  have A := Lib.hid pe
  have HC : cnt ls ≤ 4096 := by rw [cnt_eq]; exact G.cnt
  have E0 := Lib.hid (Eb.new w e p s q)
  have K0 := Lib.hid ((Keeps.refl none' w).alloc (.cells (edCells e p s q).toArray 35))
  have KD := lay57 R x y z h ls e.id (w.alloc (.cells (edCells e p s q).toArray 35)) (W.later K0.out).doc ((W.later K0.out).docV) (by omega)
  rw [kv] at KD
  have KN := Lib.hid KD
  clear W G kv pe KD HC
  unfold edV
  obtain ⟨EV, hEV⟩ : ∃ EV, EV = (edCells e p s q).toArray := ⟨_, rfl⟩
  rw [← hEV]
  rw [← hEV] at E0 K0 KN
  clear hEV
  go_enter Try.func34, Try.ntmps34
  go_upto_region 1 with (fail)
  generalize w.alloc (.cells EV 35) = w1 at *
  obtain ⟨E, hE⟩ : ∃ E, E = w.heap.size := ⟨_, rfl⟩
  rw [← hE] at E0
  rw [← hE]
  clear hE
  have e1 := E0.out.c1
  go_wp2_with ((with_reducible refine KN.out.mono ?_); rintro en w2 ⟨rfl, hk⟩; have K2 := Lib.hid (K0.out.next hk); clear hk)
  go_ret
  exact Edited.err A.out K2.out
set_option maxRecDepth 100000 in
set_option maxHeartbeats 3200000 in
theorem look_yes (B R : Nat) (x y z : Int) (e : PEd) (p s q : Hd) (w : World) (C : List Frm) (h' : Hd) (pre post : List Loc) (d : Dat) (lp lm lq lk : Hd) (kids : List Loc)
    (W : Whole B w R x y z (plugH C h') (plugL C h' (pre ++ .mk d lp lm lq lk kids :: post))) (hB : B ≤ w.heap.size) {z0 : Int} (G : Good z0 (er (plugL C h' (pre ++ .mk d lp lm lq lk kids :: post))))
    (kv : layV R (plugH C h') (plugL C h' (pre ++ .mk d lp lm lq lk kids :: post)) e.id = .tuple #[.pointer (some ⟨h'.b, h'.o + pre.length * 19, none⟩), .int .i64 0])
    (hf : fnd e.id (er (plugL C h' (pre ++ .mk d lp lm lq lk kids :: post))) = some ⟨C.map Frm.er, er pre, d, er kids, er post⟩) :
    Calls Try.prog 34 #[.pointer (some ⟨R, 0, none⟩), edV e p s q] w fun en w' => Edited B w R x y z (lookP (er (plugL C h' (pre ++ .mk d lp lm lq lk kids :: post))) e.id e.n e.m) en w' := by
  have HC : cnt (plugL C h' (pre ++ .mk d lp lm lq lk kids :: post)) ≤ 4096 := by rw [cnt_eq]; exact G.cnt
  have HW := Lib.hid W
  have HF := Lib.hid hf
  have E0 := Lib.hid (Eb.new w e p s q)
  have K0 := Lib.hid ((Keeps.refl none' w).alloc (.cells (edCells e p s q).toArray 35))
  have KD := lay57 R x y z (plugH C h') _ e.id (w.alloc (.cells (edCells e p s q).toArray 35)) (W.later K0.out).doc ((W.later K0.out).docV) (by omega)
  rw [kv] at KD
  have KN := Lib.hid KD
  have HB := Lib.hid hB
  have LS := Lib.hid (lay_spot W)
  clear W G kv hf KD HC hB
  unfold edV
  obtain ⟨EV, hEV⟩ : ∃ EV, EV = (edCells e p s q).toArray := ⟨_, rfl⟩
  rw [← hEV]
  rw [← hEV] at E0 K0 KN
  clear hEV
  obtain ⟨RES, hRES⟩ : ∃ RES, RES = lookP (er (plugL C h' (pre ++ .mk d lp lm lq lk kids :: post))) e.id e.n e.m := ⟨_, rfl⟩
  rw [← hRES]
  have HS := Lib.hid hRES
  clear hRES
  obtain ⟨LO, hLO⟩ : ∃ LO, LO = h'.o + pre.length * 19 := ⟨_, rfl⟩
  rw [← hLO] at KN
  have HLO := Lib.hid hLO
  clear hLO
  obtain ⟨LB, hLB⟩ : ∃ LB, LB = h'.b := ⟨_, rfl⟩
  rw [← hLB] at KN
  have HLB := Lib.hid hLB
  clear hLB
  go_enter Try.func34, Try.ntmps34
  go_upto_region 1 with (fail)
  generalize w.alloc (.cells EV 35) = w1 at *
  obtain ⟨E, hE⟩ : ∃ E, E = w.heap.size := ⟨_, rfl⟩
  rw [← hE] at E0
  rw [← hE]
  have HE := Lib.hid hE
  clear hE
  have e1 := E0.out.c1
  go_upto_region 4 with ((with_reducible refine KN.out.mono ?_); rintro en w2 ⟨rfl, hk⟩; have K2 := Lib.hid (K0.out.next hk); have E2 := Lib.hid (E0.out.later hk); have K12 := Lib.hid hk; clear hk)
  clear e1 KN E0 K0
  have L2 := Lib.hid (LS.out.later K2.out)
  have e4 := E2.out.c4
  have e5 := E2.out.c5
  have nE : LB ≠ E := by
    have h1 := LS.out.lt
    rw [HLB.out, HE.out]
    omega
  have nE' : E ≠ LB := fun h => nE h.symm
  have U1 := Lib.hid (fun w' => upto46 e.n 255 w')
  have U2 := Lib.hid (fun w' => upto46 e.m 11 w')
  cases u1 : uptoB e.n 255 with
  | false =>
    unfold uptoB at u1
    rw [u1] at U1
    have ER := Lib.hid (show RES = .error 32 from by
      rw [HS.out]
      unfold lookP
      rw [HF.out]
      simp only [show uptoB e.n 255 = false from u1, Bool.false_and, if_true])
    clear u1
    go_wp2_with ((with_reducible refine (U1.out _).mono ?_); rintro en w3 ⟨rfl, hw⟩; subst hw)
    go_ret
    exact Edited.err ER.out K2.out
  | true =>
  cases u2 : uptoB e.m 11 with
  | false =>
    unfold uptoB at u1 u2
    rw [u1] at U1
    rw [u2] at U2
    have ER := Lib.hid (show RES = .error 32 from by
      rw [HS.out]
      unfold lookP
      rw [HF.out]
      simp only [show uptoB e.m 11 = false from u2, Bool.and_false, if_true])
    clear u1 u2
    go_wp2_with (first
      | ((with_reducible refine (U1.out _).mono ?_); rintro en w3 ⟨rfl, hw⟩; subst hw)
      | ((with_reducible refine (U2.out _).mono ?_); rintro en w3 ⟨rfl, hw⟩; subst hw))
    go_ret
    exact Edited.err ER.out K2.out
  | true =>
  have UU := Lib.hid (show (uptoB e.n 255 && uptoB e.m 11) = true from by rw [u1, u2]; rfl)
  unfold uptoB at u1 u2
  rw [u1] at U1
  rw [u2] at U2
  clear u1 u2
  have x1 : w2.cell? ⟨LB, LO + 1, none⟩ = some (.int .i64 d.kind) := by rw [HLB.out, HLO.out]; exact L2.out.cell 1 _ rfl
  by_cases t : d.kind = 2 ∧ e.m ≠ 0
  · have t1 : (d.kind == 2) = true := by simp [t.1]
    have t2 : (e.m == 0) = false := by simp [t.2]
    have t3 : (e.m != 0) = true := by simp [t.2]
    have t4 : decide (d.kind = 2) = true := by simp [t.1]
    have ER := Lib.hid (show RES = .error 41 from by
      rw [HS.out]
      unfold lookP
      rw [HF.out]
      simp only [UU.out, show (decide (d.kind = 2) && decide (e.m ≠ 0)) = true from by simp [t.1, t.2], if_true]
      rfl)
    clear t
    go_wp2_with (first
      | ((with_reducible refine (U1.out _).mono ?_); rintro en w3 ⟨rfl, hw⟩; subst hw)
      | ((with_reducible refine (U2.out _).mono ?_); rintro en w3 ⟨rfl, hw⟩; subst hw))
    go_ret
    exact Edited.err ER.out K2.out
  · have t0 : (decide (d.kind = 2) && decide (e.m ≠ 0)) = false := by
      cases hq : (decide (d.kind = 2) && decide (e.m ≠ 0)) with
      | false => rfl
      | true => simp at hq; exact absurd hq t
    have ER := Lib.hid (show RES = .ok (plugP (C.map Frm.er) (er pre ++ .mk (setOM d e.n e.m) (er kids) :: er post)) from by
      rw [HS.out]
      unfold lookP
      rw [HF.out]
      simp only [UU.out, t0]
      rfl)
    have T0 := Lib.hid (show (d.kind == 2) = false ∨ ((d.kind == 2) = true ∧ (e.m == 0) = true ∧ (e.m != 0) = false) from by
      by_cases t1 : d.kind = 2
      · have t2 : e.m = 0 := by
          by_cases t2 : e.m = 0
          · exact t2
          · exact absurd ⟨t1, t2⟩ t
        exact .inr ⟨by simp [t1], by simp [t2], by simp [t2]⟩
      · exact .inl (by simp [t1]))
    clear t0 t
    rcases T0.out with s1 | ⟨s1, s2, s3⟩
    · have x3 : w2.cell? ⟨LB, LO + 3, none⟩ = some (.int .i64 d.op) := by rw [HLB.out, HLO.out]; exact L2.out.cell 3 _ rfl
      have x4 : w2.cell? ⟨LB, LO + 4, none⟩ = some (.int .i64 d.mode) := by rw [HLB.out, HLO.out]; exact L2.out.cell 4 _ rfl
      have f3 : w2.frozen? ⟨LB, LO + 3, none⟩ = false := by rw [HLB.out]; exact L2.out.fr _
      have f4 : w2.frozen? ⟨LB, LO + 4, none⟩ = false := by rw [HLB.out]; exact L2.out.fr _
      go_wp2_with (first
        | ((with_reducible refine (U1.out _).mono ?_); rintro en w3 ⟨rfl, hw⟩; subst hw)
        | ((with_reducible refine (U2.out _).mono ?_); rintro en w3 ⟨rfl, hw⟩; subst hw))
      go_region
      all_goals go_wp2_with fail
      all_goals go_ret
      obtain ⟨wa, ka⟩ := turn0 (d' := { d with op := e.n }) (j := 3) (u := .int .i64 e.n) HW.out K2.out (by omega) rfl rfl rfl rfl rfl HB.out
      obtain ⟨wb, kb⟩ := turn0 (d' := setOM d e.n e.m) (j := 4) (u := .int .i64 e.m) wa (Keeps.refl none' _) (by omega) rfl rfl rfl rfl rfl (Nat.le_trans HB.out ka.size)
      rw [← HLB.out, ← HLO.out] at wa wb ka kb
      exact Edited.good ER.out (by rw [er_plug, er_append, er_cons]; rfl) (wb.later ((Keeps.refl none' _).drew)) ((keeps_weak (ka.trans kb (fun i _ e => e)) (fun q _ e => by have h1 := LS.out.low; rw [← HLB.out] at h1; have e' : q = LB := e; omega)).drew)
    · have x3 : w2.cell? ⟨LB, LO + 3, none⟩ = some (.int .i64 d.op) := by rw [HLB.out, HLO.out]; exact L2.out.cell 3 _ rfl
      have x4 : w2.cell? ⟨LB, LO + 4, none⟩ = some (.int .i64 d.mode) := by rw [HLB.out, HLO.out]; exact L2.out.cell 4 _ rfl
      have f3 : w2.frozen? ⟨LB, LO + 3, none⟩ = false := by rw [HLB.out]; exact L2.out.fr _
      have f4 : w2.frozen? ⟨LB, LO + 4, none⟩ = false := by rw [HLB.out]; exact L2.out.fr _
      go_wp2_with (first
        | ((with_reducible refine (U1.out _).mono ?_); rintro en w3 ⟨rfl, hw⟩; subst hw)
        | ((with_reducible refine (U2.out _).mono ?_); rintro en w3 ⟨rfl, hw⟩; subst hw))
      go_region
      all_goals go_wp2_with fail
      all_goals go_ret
      obtain ⟨wa, ka⟩ := turn0 (d' := { d with op := e.n }) (j := 3) (u := .int .i64 e.n) HW.out K2.out (by omega) rfl rfl rfl rfl rfl HB.out
      obtain ⟨wb, kb⟩ := turn0 (d' := setOM d e.n e.m) (j := 4) (u := .int .i64 e.m) wa (Keeps.refl none' _) (by omega) rfl rfl rfl rfl rfl (Nat.le_trans HB.out ka.size)
      rw [← HLB.out, ← HLO.out] at wa wb ka kb
      exact Edited.good ER.out (by rw [er_plug, er_append, er_cons]; rfl) (wb.later ((Keeps.refl none' _).drew)) ((keeps_weak (ka.trans kb (fun i _ e => e)) (fun q _ e => by have h1 := LS.out.low; rw [← HLB.out] at h1; have e' : q = LB := e; omega)).drew)
theorem look34 (B R : Nat) (x y z : Int) (h : Hd) (ls : List Loc) (e : PEd) (p s q : Hd) (w : World) (W : Whole B w R x y z h ls) {z0 : Int} (G : Good z0 (er ls)) (hB : B ≤ w.heap.size) :
    Calls Try.prog 34 #[.pointer (some ⟨R, 0, none⟩), edV e p s q] w fun en w' => Edited B w R x y z (lookP (er ls) e.id e.n e.m) en w' := by
  rcases lay_doc e.id R h ls with ⟨a, b⟩ | ⟨C, pre, l, post, h', a1, a2, a3, a4⟩
  · exact look_no B R x y z h ls e p s q w W G b (by unfold lookP; rw [a])
  · obtain ⟨d, lp, lm, lq, lk, kids⟩ := l
    subst a2 a3
    exact look_yes B R x y z e p s q w C h' pre post d lp lm lq lk kids W hB G a4 a1
set_option maxRecDepth 100000 in
set_option maxHeartbeats 3200000 in
theorem hide_no (B R : Nat) (x y z : Int) (h : Hd) (ls : List Loc) (e : PEd) (p s q : Hd) (w : World) (W : Whole B w R x y z h ls) {z0 : Int} (G : Good z0 (er ls)) (kv : layV R h ls e.id = .tuple #[.pointer none, .int .i64 40]) (pe : hideP (er ls) e.id e.n = .error 40) :
    Calls Try.prog 35 #[.pointer (some ⟨R, 0, none⟩), edV e p s q] w fun en w' => Edited B w R x y z (hideP (er ls) e.id e.n) en w' := by
  have A := Lib.hid pe
  have HC : cnt ls ≤ 4096 := by rw [cnt_eq]; exact G.cnt
  have E0 := Lib.hid (Eb.new w e p s q)
  have K0 := Lib.hid ((Keeps.refl none' w).alloc (.cells (edCells e p s q).toArray 35))
  have KD := lay57 R x y z h ls e.id (w.alloc (.cells (edCells e p s q).toArray 35)) (W.later K0.out).doc ((W.later K0.out).docV) (by omega)
  rw [kv] at KD
  have KN := Lib.hid KD
  clear W G kv pe KD HC
  unfold edV
  obtain ⟨EV, hEV⟩ : ∃ EV, EV = (edCells e p s q).toArray := ⟨_, rfl⟩
  rw [← hEV]
  rw [← hEV] at E0 K0 KN
  clear hEV
  go_enter Try.func35, Try.ntmps35
  go_upto_region 1 with (fail)
  generalize w.alloc (.cells EV 35) = w1 at *
  obtain ⟨E, hE⟩ : ∃ E, E = w.heap.size := ⟨_, rfl⟩
  rw [← hE] at E0
  rw [← hE]
  clear hE
  have e1 := E0.out.c1
  go_wp2_with ((with_reducible refine KN.out.mono ?_); rintro en w2 ⟨rfl, hk⟩; have K2 := Lib.hid (K0.out.next hk); clear hk)
  go_ret
  exact Edited.err A.out K2.out
set_option maxRecDepth 100000 in
set_option maxHeartbeats 3200000 in
theorem hide_yes (B R : Nat) (x y z : Int) (e : PEd) (p s q : Hd) (w : World) (C : List Frm) (h' : Hd) (pre post : List Loc) (d : Dat) (lp lm lq lk : Hd) (kids : List Loc)
    (W : Whole B w R x y z (plugH C h') (plugL C h' (pre ++ .mk d lp lm lq lk kids :: post))) (hB : B ≤ w.heap.size) {z0 : Int} (G : Good z0 (er (plugL C h' (pre ++ .mk d lp lm lq lk kids :: post))))
    (kv : layV R (plugH C h') (plugL C h' (pre ++ .mk d lp lm lq lk kids :: post)) e.id = .tuple #[.pointer (some ⟨h'.b, h'.o + pre.length * 19, none⟩), .int .i64 0])
    (hf : fnd e.id (er (plugL C h' (pre ++ .mk d lp lm lq lk kids :: post))) = some ⟨C.map Frm.er, er pre, d, er kids, er post⟩) :
    Calls Try.prog 35 #[.pointer (some ⟨R, 0, none⟩), edV e p s q] w fun en w' => Edited B w R x y z (hideP (er (plugL C h' (pre ++ .mk d lp lm lq lk kids :: post))) e.id e.n) en w' := by
  have HC : cnt (plugL C h' (pre ++ .mk d lp lm lq lk kids :: post)) ≤ 4096 := by rw [cnt_eq]; exact G.cnt
  have HW := Lib.hid W
  have HF := Lib.hid hf
  have E0 := Lib.hid (Eb.new w e p s q)
  have K0 := Lib.hid ((Keeps.refl none' w).alloc (.cells (edCells e p s q).toArray 35))
  have KD := lay57 R x y z (plugH C h') _ e.id (w.alloc (.cells (edCells e p s q).toArray 35)) (W.later K0.out).doc ((W.later K0.out).docV) (by omega)
  rw [kv] at KD
  have KN := Lib.hid KD
  have HB := Lib.hid hB
  have LS := Lib.hid (lay_spot W)
  clear W G kv hf KD HC hB
  unfold edV
  obtain ⟨EV, hEV⟩ : ∃ EV, EV = (edCells e p s q).toArray := ⟨_, rfl⟩
  rw [← hEV]
  rw [← hEV] at E0 K0 KN
  clear hEV
  obtain ⟨RES, hRES⟩ : ∃ RES, RES = hideP (er (plugL C h' (pre ++ .mk d lp lm lq lk kids :: post))) e.id e.n := ⟨_, rfl⟩
  rw [← hRES]
  have HS := Lib.hid hRES
  clear hRES
  obtain ⟨LO, hLO⟩ : ∃ LO, LO = h'.o + pre.length * 19 := ⟨_, rfl⟩
  rw [← hLO] at KN
  have HLO := Lib.hid hLO
  clear hLO
  obtain ⟨LB, hLB⟩ : ∃ LB, LB = h'.b := ⟨_, rfl⟩
  rw [← hLB] at KN
  have HLB := Lib.hid hLB
  clear hLB
  go_enter Try.func35, Try.ntmps35
  go_upto_region 1 with (fail)
  generalize w.alloc (.cells EV 35) = w1 at *
  obtain ⟨E, hE⟩ : ∃ E, E = w.heap.size := ⟨_, rfl⟩
  rw [← hE] at E0
  rw [← hE]
  have HE := Lib.hid hE
  clear hE
  have e1 := E0.out.c1
  go_upto_region 4 with ((with_reducible refine KN.out.mono ?_); rintro en w2 ⟨rfl, hk⟩; have K2 := Lib.hid (K0.out.next hk); have E2 := Lib.hid (E0.out.later hk); have K12 := Lib.hid hk; clear hk)
  clear e1 KN E0 K0
  have L2 := Lib.hid (LS.out.later K2.out)
  have e4 := E2.out.c4
  have e5 := E2.out.c5
  have nE : LB ≠ E := by
    have h1 := LS.out.lt
    rw [HLB.out, HE.out]
    omega
  have nE' : E ≠ LB := fun h => nE h.symm
  have U1 := Lib.hid (fun w' => upto46 e.n 1 w')
  cases u1 : uptoB e.n 1 with
  | false =>
    unfold uptoB at u1
    rw [u1] at U1
    have ER := Lib.hid (show RES = .error 32 from by
      rw [HS.out]
      unfold hideP
      rw [HF.out]
      simp only [show uptoB e.n 1 = false from u1, if_true])
    clear u1
    go_wp2_with ((with_reducible refine (U1.out _).mono ?_); rintro en w3 ⟨rfl, hw⟩; subst hw)
    go_ret
    exact Edited.err ER.out K2.out
  | true =>
  have ER := Lib.hid (show RES = .ok (plugP (C.map Frm.er) (er pre ++ .mk (setHid d (decide (e.n = 1))) (er kids) :: er post)) from by
    rw [HS.out]
    unfold hideP
    rw [HF.out]
    simp only [u1]
    rfl)
  unfold uptoB at u1
  rw [u1] at U1
  clear u1
  have x2 : w2.cell? ⟨LB, LO + 2, none⟩ = some (.bool d.hid) := by rw [HLB.out, HLO.out]; exact L2.out.cell 2 _ rfl
  have f2 : w2.frozen? ⟨LB, LO + 2, none⟩ = false := by rw [HLB.out]; exact L2.out.fr _
  obtain ⟨b, hb⟩ : ∃ b, b = decide (e.n = 1) := ⟨_, rfl⟩
  have b1 : (e.n == 1) = b := by rw [hb]; simp [Bool.beq_eq_decide_eq]
  have b2 : decide (e.n = 1) = b := hb.symm
  rw [b2] at ER
  have HBB := Lib.hid hb
  clear hb
  go_wp2_with ((with_reducible refine (U1.out _).mono ?_); rintro en w3 ⟨rfl, hw⟩; subst hw)
  go_ret
  obtain ⟨wa, ka⟩ := turn0 (d' := setHid d b) (j := 2) (u := .bool b) HW.out K2.out (by omega) rfl rfl rfl rfl rfl HB.out
  rw [← HLB.out, ← HLO.out] at wa ka
  exact Edited.good ER.out (by rw [er_plug, er_append, er_cons]; rfl) wa (keeps_weak ka (fun q _ e => by have h1 := LS.out.low; rw [← HLB.out] at h1; have e' : q = LB := e; omega))
theorem hide35 (B R : Nat) (x y z : Int) (h : Hd) (ls : List Loc) (e : PEd) (p s q : Hd) (w : World) (W : Whole B w R x y z h ls) {z0 : Int} (G : Good z0 (er ls)) (hB : B ≤ w.heap.size) :
    Calls Try.prog 35 #[.pointer (some ⟨R, 0, none⟩), edV e p s q] w fun en w' => Edited B w R x y z (hideP (er ls) e.id e.n) en w' := by
  rcases lay_doc e.id R h ls with ⟨a, b⟩ | ⟨C, pre, l, post, h', a1, a2, a3, a4⟩
  · exact hide_no B R x y z h ls e p s q w W G b (by unfold hideP; rw [a])
  · obtain ⟨d, lp, lm, lq, lk, kids⟩ := l
    subst a2 a3
    exact hide_yes B R x y z e p s q w C h' pre post d lp lm lq lk kids W hB G a4 a1
end Go.Proofs.Ytfcpbpfemmdklaa

/- Do (8), for the kinds 5 and 6. (printed by genZW.py) -/
namespace Go.Proofs.Ytfcpbpfemmdklaa
open Go.RowKit Go.Lib
set_option linter.unusedSimpArgs false
set_option linter.unusedVariables false

theorem lookP_err {ls : List Lay} {id n m : Int} {f : Int} (e : lookP ls id n m = .error f) : f ≠ 0 := by
  unfold lookP at e
  split at e
  · cases e; decide
  split at e
  · cases e; decide
  split at e
  · cases e; decide
  · cases e
theorem hideP_err {ls : List Lay} {id n : Int} {f : Int} (e : hideP ls id n = .error f) : f ≠ 0 := by
  unfold hideP at e
  split at e
  · cases e; decide
  split at e
  · cases e; decide
  · cases e
attribute [local go_sem ↓] ldx35
attribute [local go_sem] ptrBlock_some aggCells_agg
set_option maxRecDepth 100000 in
set_option maxHeartbeats 3200000 in
theorem doLook (x y z : Int) (h : Hd) (ls : List Loc) (e : PEd) (p s q : Hd) (w : World) (D : DocV w h ls) {z0 : Int} (G : Good z0 (er ls)) (hk : e.kind = 5) :
    Calls Try.prog 8 #[docV x y z h, edV e p s q] w fun en w' => Done w x y (z) (lookP (er ls) e.id e.n e.m) en w' := by
  have HD := Lib.hid D
  have HG := Lib.hid G
  skip
  have C0 := Lib.hid (((Dc.new w x y z h).later ((Keeps.refl none' _).alloc (.cells (edCells e p s q).toArray 35))).later ((Keeps.refl none' _).alloc (.cells #[.int .i64 0, .int .i64 0, .int .i64 0, .slice none 0 0] 25)))
  have E0 := Lib.hid ((Eb.new (w.alloc (.cells #[.int .i64 x, .int .i64 y, .int .i64 z, .slice h.a h.n h.c] 25)) e p s q).later ((Keeps.refl none' _).alloc (.cells #[.int .i64 0, .int .i64 0, .int .i64 0, .slice none 0 0] 25)))
  have K0 := Lib.hid ((((Keeps.refl none' w).alloc (.cells #[.int .i64 x, .int .i64 y, .int .i64 z, .slice h.a h.n h.c] 25)).alloc (.cells (edCells e p s q).toArray 35)).alloc (.cells #[.int .i64 0, .int .i64 0, .int .i64 0, .slice none 0 0] 25))
  have R0 := Lib.hid (heap_alloc_new ((w.alloc (.cells #[.int .i64 x, .int .i64 y, .int .i64 z, .slice h.a h.n h.c] 25)).alloc (.cells (edCells e p s q).toArray 35)) (.cells #[.int .i64 0, .int .i64 0, .int .i64 0, .slice none 0 0] 25))
  have hs1 : (w.alloc (.cells #[.int .i64 x, .int .i64 y, .int .i64 z, .slice h.a h.n h.c] 25)).heap.size = w.heap.size + 1 := by simp
  have hs2 : ((w.alloc (.cells #[.int .i64 x, .int .i64 y, .int .i64 z, .slice h.a h.n h.c] 25)).alloc (.cells (edCells e p s q).toArray 35)).heap.size = w.heap.size + 1 + 1 := by simp
  rw [hs1] at E0
  rw [hs2] at R0
  clear hs1 hs2 D G
  unfold docV edV
  obtain ⟨EV, hEV⟩ : ∃ EV, EV = (edCells e p s q).toArray := ⟨_, rfl⟩
  rw [← hEV]
  rw [← hEV] at C0 E0 K0 R0
  have HEV := Lib.hid hEV
  have e0v := E0.out.c0
  rw [hk] at e0v
  clear hEV
  obtain ⟨Dk, hDk⟩ : ∃ Dk, Dk = w.heap.size := ⟨_, rfl⟩
  obtain ⟨E, hE⟩ : ∃ E, E = Dk + 1 := ⟨_, rfl⟩
  obtain ⟨Z, hZ⟩ : ∃ Z, Z = E + 1 := ⟨_, rfl⟩
  rw [← hDk] at C0
  rw [← hDk, ← hE] at E0 e0v
  rw [← hDk, ← hE, ← hZ] at R0
  have EE := Lib.hid (And.intro hDk (And.intro hE hZ))
  go_enter Try.func8, Try.ntmps8
  go_upto_region 1 with (fail)
  rw [← hDk, ← hE, ← hZ]
  clear hDk hE hZ
  generalize ((w.alloc (.cells #[.int .i64 x, .int .i64 y, .int .i64 z, .slice h.a h.n h.c] 25)).alloc (.cells EV 35)).alloc (.cells #[.int .i64 0, .int .i64 0, .int .i64 0, .slice none 0 0] 25) = w1 at *
  go_upto_region 2 with ((with_reducible refine (deeds17 w1).mono ?_); rintro en w2 ⟨rfl, f0, hw2⟩; have HW2 := Lib.hid hw2; clear hw2)
  have db := heap_alloc_new w1 (.cells #[f0, .func (.func 30) #[] #[], .func (.func 31) #[] #[], .func (.func 32) #[] #[], .func (.func 33) #[] #[], .func (.func 34) #[] #[], .func (.func 35) #[] #[], .func (.func 36) #[] #[], .func (.func 37) #[] #[], .func (.func 38) #[] #[]] 59)
  rw [← HW2.out] at db
  have DB := Lib.hid db
  have k12 : Keeps none' w1 w2 := by rw [HW2.out]; exact (Keeps.refl none' w1).alloc _
  clear db
  obtain ⟨DD, hDD⟩ : ∃ DD, DD = w1.heap.size := ⟨_, rfl⟩
  rw [← hDD] at DB
  rw [← hDD]
  clear hDD HW2
  have K2 := Lib.hid (K0.out.next k12)
  have C2 := Lib.hid (C0.out.later k12)
  have E2 := Lib.hid (E0.out.later k12)
  have R2 := Lib.hid ((k12.later Z (lt_of_block R0.out)).trans R0.out)
  have e0w := k12.cell e0v
  clear k12 C0 E0 K0 R0 e0v
  have c0 := C2.out.c0
  have c1 := C2.out.c1
  have c2 := C2.out.c2
  have c3 := C2.out.c3
  have cp := copied18 x y z h ls w2 (HD.out.later K2.out)
  unfold docV at cp
  have CP := Lib.hid cp
  clear cp
  go_upto_region 5 with ((with_reducible refine CP.out.mono ?_); rintro en w3 ⟨h', ls', rfl, hcp⟩; have CD := Lib.hid hcp; clear hcp)
  have ka := (Keeps.refl none' w3).alloc (.cells #[.int .i64 x, .int .i64 y, .int .i64 z, .slice h'.a h'.n h'.c] 25)
  have N4 := Lib.hid (Dc.new w3 x y z h')
  have K24 := Lib.hid (CD.out.keeps.next ka)
  have E4 := Lib.hid (E2.out.later K24.out)
  have R4 := Lib.hid ((K24.out.later Z (lt_of_block R2.out)).trans R2.out)
  have D4 := Lib.hid ((K24.out.later DD (lt_of_block DB.out)).trans DB.out)
  have e0 := K24.out.cell e0w
  have K4 := Lib.hid (K2.out.next K24.out)
  obtain ⟨Nx, hNx⟩ : ∃ Nx, Nx = w3.heap.size := ⟨_, rfl⟩
  have W4 := Lib.hid (show Whole w2.heap.size (w3.alloc (.cells #[.int .i64 x, .int .i64 y, .int .i64 z, .slice h'.a h'.n h'.c] 25)) Nx x y z h' ls' from by
    have hB : w2.heap.size ≤ w2.heap.size + 2 := by omega
    refine ⟨by rw [hNx]; exact N4.out, (CD.out.row.later ka).low hB, (CD.out.own.later ka).low hB, CD.out.nodup, fun hm => ?_⟩
    rcases List.mem_append.1 hm with hm | hm
    · have := (CD.out.row.range _ hm).2; omega
    · have := (CD.out.own.range _ hm).2; omega)
  obtain ⟨B2, hB2⟩ : ∃ B2, B2 = w2.heap.size := ⟨_, rfl⟩
  have NB := Lib.hid (show B2 ≤ Nx ∧ Z < B2 ∧ w.heap.size ≤ B2 from by rw [hNx, hB2]; exact ⟨CD.out.keeps.size, lt_of_block R2.out, K2.out.size⟩)
  rw [← hB2] at W4
  have SAME := Lib.hid CD.out.same
  rw [← hNx]
  clear hNx hB2 ka N4 c0 c1 c2 c3 CP CD K24 E2 R2 DB C2 K2 e0w
  generalize w3.alloc (.cells #[.int .i64 x, .int .i64 y, .int .i64 z, .slice h'.a h'.n h'.c] 25) = w4 at *
  have deed := look34 B2 Nx x y z h' ls' e p s q w4.drew (W4.out.later ((Keeps.refl none' w4).drew)) (by rw [SAME.out]; exact HG.out) (Nat.le_of_lt (Nat.lt_of_le_of_lt NB.out.1 (lt_of_block W4.out.doc)))
  unfold edV at deed
  rw [← HEV.out, SAME.out] at deed
  have DE := Lib.hid (show Calls Try.prog 34 #[.pointer (some ⟨Nx, 0, none⟩), .agg EV] w4.drew (fun en w' => ∃ v : Int, en = .returned (.int .i64 v) ∧ Edited B2 w4.drew Nx x y (z) (lookP (er ls) e.id e.n e.m) (.returned (.int .i64 v)) w') from deed.mono (fun _ _ h => h.val))
  clear deed
  have r5 : Row35 w4 E := E4.out.row.1
  have r6 : rowAt w4 E = EV := by rw [E4.out.row.2, HEV.out]
  have r5d : Row35 w4.drew E := r5
  have r6d : rowAt w4.drew E = EV := r6
  have fk : w4.cell? ⟨DD, 5, none⟩ = some (.func (.func 34) #[] #[]) := by simp [World.cell?, D4.out]
  go_cut [8] from 23 (fun s8 w' => ∃ v : Int, s8 = .int .i64 v ∧ Edited B2 w4.drew Nx x y (z) (lookP (er ls) e.id e.n e.m) (.returned (.int .i64 v)) w')
  case first =>
    go_region_law (go_simp; (with_reducible refine DE.out.mono ?_); rintro en w5 ⟨v, rfl, hed⟩)
    all_goals
      go_wp2_with fail
      go_meet
      case rel => exact ⟨v, rfl, hed⟩
  case rest =>
    obtain ⟨v, rfl, hed⟩ := hcut
    have ZW := Lib.hid (show w.heap.size ≤ Z from by have := EE.out; omega)
    clear r5 r6 r5d r6d fk e0
    cases hr : lookP (er ls) e.id e.n e.m with
    | error f =>
      rw [hr] at hed
      obtain ⟨hv, hk9⟩ := hed
      simp only [Ending.returned.injEq, Value.int.injEq, true_and] at hv
      subst hv
      have e1 : (v != 0) = true := by simpa using lookP_err hr
      have RS := Lib.hid hr
      have K9 := Lib.hid (keeps_of_from K4.out.drew hk9 NB.out.2.2)
      have R9 := Lib.hid ((hk9.block Z (lt_of_block R4.out) (by have := NB.out; omega)).trans R4.out)
      obtain ⟨⟨r0, r1, r2, r3⟩, rf⟩ := four_cells R9.out
      have f0' := rf 0
      have f1' := rf 1
      have f2' := rf 2
      have f3' := rf 3
      clear rf hr hk9
      go_wp2_with fail
      refine bodyPost_ret (results_cell_row2 rfl _ _ Z 25 _ (0, 0) _ rfl (four_set R9.out _ _ _ _) Try.underlying25 rfl (by kernel_rfl)) rfl ?_
      exact Done.err RS.out (keeps_set4 K9.out ZW.out _ _ _ _)
    | ok lsP =>
      rw [hr] at hed
      obtain ⟨hv, h2, lsL, q1, q2, hk9⟩ := hed
      simp only [Ending.returned.injEq, Value.int.injEq, true_and] at hv
      subst hv
      have RS := Lib.hid hr
      have Q := Lib.hid (And.intro q1 q2)
      have K9 := Lib.hid (keeps_of_from K4.out.drew hk9 NB.out.2.2)
      have R9 := Lib.hid ((hk9.block Z (lt_of_block R4.out) (by have := NB.out; omega)).trans R4.out)
      obtain ⟨⟨r0, r1, r2, r3⟩, rf⟩ := four_cells R9.out
      have f0' := rf 0
      have f1' := rf 1
      have f2' := rf 2
      have f3' := rf 3
      have c0 := Dc.c0 (x := x) (y := y) (z := z) (h := h2) q2.doc
      have c1 := Dc.c1 (x := x) (y := y) (z := z) (h := h2) q2.doc
      have c2 := Dc.c2 (x := x) (y := y) (z := z) (h := h2) q2.doc
      have c3 := Dc.c3 (x := x) (y := y) (z := z) (h := h2) q2.doc
      clear rf hr hk9 q1 q2
      go_wp2_with fail
      refine bodyPost_ret (results_cell_row2 rfl _ _ Z 25 _ (0, 0) _ rfl (four_set R9.out _ _ _ _) Try.underlying25 rfl (by kernel_rfl)) rfl ?_
      refine Done.good RS.out Q.out.1 ?_ (keeps_set4 K9.out ZW.out _ _ _ _)
      have nd := Q.out.2.newD
      exact (nd.keep (keeps_at4 wc Z _ _ _ _) (fun b hb e => by have e' : b = Z := e; have := (nd.range b hb).1; have := NB.out; omega)).low NB.out.2.2
set_option maxRecDepth 100000 in
set_option maxHeartbeats 3200000 in
theorem doHide (x y z : Int) (h : Hd) (ls : List Loc) (e : PEd) (p s q : Hd) (w : World) (D : DocV w h ls) {z0 : Int} (G : Good z0 (er ls)) (hk : e.kind = 6) :
    Calls Try.prog 8 #[docV x y z h, edV e p s q] w fun en w' => Done w x y (z) (hideP (er ls) e.id e.n) en w' := by
  have HD := Lib.hid D
  have HG := Lib.hid G
  skip
  have C0 := Lib.hid (((Dc.new w x y z h).later ((Keeps.refl none' _).alloc (.cells (edCells e p s q).toArray 35))).later ((Keeps.refl none' _).alloc (.cells #[.int .i64 0, .int .i64 0, .int .i64 0, .slice none 0 0] 25)))
  have E0 := Lib.hid ((Eb.new (w.alloc (.cells #[.int .i64 x, .int .i64 y, .int .i64 z, .slice h.a h.n h.c] 25)) e p s q).later ((Keeps.refl none' _).alloc (.cells #[.int .i64 0, .int .i64 0, .int .i64 0, .slice none 0 0] 25)))
  have K0 := Lib.hid ((((Keeps.refl none' w).alloc (.cells #[.int .i64 x, .int .i64 y, .int .i64 z, .slice h.a h.n h.c] 25)).alloc (.cells (edCells e p s q).toArray 35)).alloc (.cells #[.int .i64 0, .int .i64 0, .int .i64 0, .slice none 0 0] 25))
  have R0 := Lib.hid (heap_alloc_new ((w.alloc (.cells #[.int .i64 x, .int .i64 y, .int .i64 z, .slice h.a h.n h.c] 25)).alloc (.cells (edCells e p s q).toArray 35)) (.cells #[.int .i64 0, .int .i64 0, .int .i64 0, .slice none 0 0] 25))
  have hs1 : (w.alloc (.cells #[.int .i64 x, .int .i64 y, .int .i64 z, .slice h.a h.n h.c] 25)).heap.size = w.heap.size + 1 := by simp
  have hs2 : ((w.alloc (.cells #[.int .i64 x, .int .i64 y, .int .i64 z, .slice h.a h.n h.c] 25)).alloc (.cells (edCells e p s q).toArray 35)).heap.size = w.heap.size + 1 + 1 := by simp
  rw [hs1] at E0
  rw [hs2] at R0
  clear hs1 hs2 D G
  unfold docV edV
  obtain ⟨EV, hEV⟩ : ∃ EV, EV = (edCells e p s q).toArray := ⟨_, rfl⟩
  rw [← hEV]
  rw [← hEV] at C0 E0 K0 R0
  have HEV := Lib.hid hEV
  have e0v := E0.out.c0
  rw [hk] at e0v
  clear hEV
  obtain ⟨Dk, hDk⟩ : ∃ Dk, Dk = w.heap.size := ⟨_, rfl⟩
  obtain ⟨E, hE⟩ : ∃ E, E = Dk + 1 := ⟨_, rfl⟩
  obtain ⟨Z, hZ⟩ : ∃ Z, Z = E + 1 := ⟨_, rfl⟩
  rw [← hDk] at C0
  rw [← hDk, ← hE] at E0 e0v
  rw [← hDk, ← hE, ← hZ] at R0
  have EE := Lib.hid (And.intro hDk (And.intro hE hZ))
  go_enter Try.func8, Try.ntmps8
  go_upto_region 1 with (fail)
  rw [← hDk, ← hE, ← hZ]
  clear hDk hE hZ
  generalize ((w.alloc (.cells #[.int .i64 x, .int .i64 y, .int .i64 z, .slice h.a h.n h.c] 25)).alloc (.cells EV 35)).alloc (.cells #[.int .i64 0, .int .i64 0, .int .i64 0, .slice none 0 0] 25) = w1 at *
  go_upto_region 2 with ((with_reducible refine (deeds17 w1).mono ?_); rintro en w2 ⟨rfl, f0, hw2⟩; have HW2 := Lib.hid hw2; clear hw2)
  have db := heap_alloc_new w1 (.cells #[f0, .func (.func 30) #[] #[], .func (.func 31) #[] #[], .func (.func 32) #[] #[], .func (.func 33) #[] #[], .func (.func 34) #[] #[], .func (.func 35) #[] #[], .func (.func 36) #[] #[], .func (.func 37) #[] #[], .func (.func 38) #[] #[]] 59)
  rw [← HW2.out] at db
  have DB := Lib.hid db
  have k12 : Keeps none' w1 w2 := by rw [HW2.out]; exact (Keeps.refl none' w1).alloc _
  clear db
  obtain ⟨DD, hDD⟩ : ∃ DD, DD = w1.heap.size := ⟨_, rfl⟩
  rw [← hDD] at DB
  rw [← hDD]
  clear hDD HW2
  have K2 := Lib.hid (K0.out.next k12)
  have C2 := Lib.hid (C0.out.later k12)
  have E2 := Lib.hid (E0.out.later k12)
  have R2 := Lib.hid ((k12.later Z (lt_of_block R0.out)).trans R0.out)
  have e0w := k12.cell e0v
  clear k12 C0 E0 K0 R0 e0v
  have c0 := C2.out.c0
  have c1 := C2.out.c1
  have c2 := C2.out.c2
  have c3 := C2.out.c3
  have cp := copied18 x y z h ls w2 (HD.out.later K2.out)
  unfold docV at cp
  have CP := Lib.hid cp
  clear cp
  go_upto_region 5 with ((with_reducible refine CP.out.mono ?_); rintro en w3 ⟨h', ls', rfl, hcp⟩; have CD := Lib.hid hcp; clear hcp)
  have ka := (Keeps.refl none' w3).alloc (.cells #[.int .i64 x, .int .i64 y, .int .i64 z, .slice h'.a h'.n h'.c] 25)
  have N4 := Lib.hid (Dc.new w3 x y z h')
  have K24 := Lib.hid (CD.out.keeps.next ka)
  have E4 := Lib.hid (E2.out.later K24.out)
  have R4 := Lib.hid ((K24.out.later Z (lt_of_block R2.out)).trans R2.out)
  have D4 := Lib.hid ((K24.out.later DD (lt_of_block DB.out)).trans DB.out)
  have e0 := K24.out.cell e0w
  have K4 := Lib.hid (K2.out.next K24.out)
  obtain ⟨Nx, hNx⟩ : ∃ Nx, Nx = w3.heap.size := ⟨_, rfl⟩
  have W4 := Lib.hid (show Whole w2.heap.size (w3.alloc (.cells #[.int .i64 x, .int .i64 y, .int .i64 z, .slice h'.a h'.n h'.c] 25)) Nx x y z h' ls' from by
    have hB : w2.heap.size ≤ w2.heap.size + 2 := by omega
    refine ⟨by rw [hNx]; exact N4.out, (CD.out.row.later ka).low hB, (CD.out.own.later ka).low hB, CD.out.nodup, fun hm => ?_⟩
    rcases List.mem_append.1 hm with hm | hm
    · have := (CD.out.row.range _ hm).2; omega
    · have := (CD.out.own.range _ hm).2; omega)
  obtain ⟨B2, hB2⟩ : ∃ B2, B2 = w2.heap.size := ⟨_, rfl⟩
  have NB := Lib.hid (show B2 ≤ Nx ∧ Z < B2 ∧ w.heap.size ≤ B2 from by rw [hNx, hB2]; exact ⟨CD.out.keeps.size, lt_of_block R2.out, K2.out.size⟩)
  rw [← hB2] at W4
  have SAME := Lib.hid CD.out.same
  rw [← hNx]
  clear hNx hB2 ka N4 c0 c1 c2 c3 CP CD K24 E2 R2 DB C2 K2 e0w
  generalize w3.alloc (.cells #[.int .i64 x, .int .i64 y, .int .i64 z, .slice h'.a h'.n h'.c] 25) = w4 at *
  have deed := hide35 B2 Nx x y z h' ls' e p s q w4.drew (W4.out.later ((Keeps.refl none' w4).drew)) (by rw [SAME.out]; exact HG.out) (Nat.le_of_lt (Nat.lt_of_le_of_lt NB.out.1 (lt_of_block W4.out.doc)))
  unfold edV at deed
  rw [← HEV.out, SAME.out] at deed
  have DE := Lib.hid (show Calls Try.prog 35 #[.pointer (some ⟨Nx, 0, none⟩), .agg EV] w4.drew (fun en w' => ∃ v : Int, en = .returned (.int .i64 v) ∧ Edited B2 w4.drew Nx x y (z) (hideP (er ls) e.id e.n) (.returned (.int .i64 v)) w') from deed.mono (fun _ _ h => h.val))
  clear deed
  have r5 : Row35 w4 E := E4.out.row.1
  have r6 : rowAt w4 E = EV := by rw [E4.out.row.2, HEV.out]
  have r5d : Row35 w4.drew E := r5
  have r6d : rowAt w4.drew E = EV := r6
  have fk : w4.cell? ⟨DD, 6, none⟩ = some (.func (.func 35) #[] #[]) := by simp [World.cell?, D4.out]
  go_cut [8] from 23 (fun s8 w' => ∃ v : Int, s8 = .int .i64 v ∧ Edited B2 w4.drew Nx x y (z) (hideP (er ls) e.id e.n) (.returned (.int .i64 v)) w')
  case first =>
    go_region_law (go_simp; (with_reducible refine DE.out.mono ?_); rintro en w5 ⟨v, rfl, hed⟩)
    all_goals
      go_wp2_with fail
      go_meet
      case rel => exact ⟨v, rfl, hed⟩
  case rest =>
    obtain ⟨v, rfl, hed⟩ := hcut
    have ZW := Lib.hid (show w.heap.size ≤ Z from by have := EE.out; omega)
    clear r5 r6 r5d r6d fk e0
    cases hr : hideP (er ls) e.id e.n with
    | error f =>
      rw [hr] at hed
      obtain ⟨hv, hk9⟩ := hed
      simp only [Ending.returned.injEq, Value.int.injEq, true_and] at hv
      subst hv
      have e1 : (v != 0) = true := by simpa using hideP_err hr
      have RS := Lib.hid hr
      have K9 := Lib.hid (keeps_of_from K4.out.drew hk9 NB.out.2.2)
      have R9 := Lib.hid ((hk9.block Z (lt_of_block R4.out) (by have := NB.out; omega)).trans R4.out)
      obtain ⟨⟨r0, r1, r2, r3⟩, rf⟩ := four_cells R9.out
      have f0' := rf 0
      have f1' := rf 1
      have f2' := rf 2
      have f3' := rf 3
      clear rf hr hk9
      go_wp2_with fail
      refine bodyPost_ret (results_cell_row2 rfl _ _ Z 25 _ (0, 0) _ rfl (four_set R9.out _ _ _ _) Try.underlying25 rfl (by kernel_rfl)) rfl ?_
      exact Done.err RS.out (keeps_set4 K9.out ZW.out _ _ _ _)
    | ok lsP =>
      rw [hr] at hed
      obtain ⟨hv, h2, lsL, q1, q2, hk9⟩ := hed
      simp only [Ending.returned.injEq, Value.int.injEq, true_and] at hv
      subst hv
      have RS := Lib.hid hr
      have Q := Lib.hid (And.intro q1 q2)
      have K9 := Lib.hid (keeps_of_from K4.out.drew hk9 NB.out.2.2)
      have R9 := Lib.hid ((hk9.block Z (lt_of_block R4.out) (by have := NB.out; omega)).trans R4.out)
      obtain ⟨⟨r0, r1, r2, r3⟩, rf⟩ := four_cells R9.out
      have f0' := rf 0
      have f1' := rf 1
      have f2' := rf 2
      have f3' := rf 3
      have c0 := Dc.c0 (x := x) (y := y) (z := z) (h := h2) q2.doc
      have c1 := Dc.c1 (x := x) (y := y) (z := z) (h := h2) q2.doc
      have c2 := Dc.c2 (x := x) (y := y) (z := z) (h := h2) q2.doc
      have c3 := Dc.c3 (x := x) (y := y) (z := z) (h := h2) q2.doc
      clear rf hr hk9 q1 q2
      go_wp2_with fail
      refine bodyPost_ret (results_cell_row2 rfl _ _ Z 25 _ (0, 0) _ rfl (four_set R9.out _ _ _ _) Try.underlying25 rfl (by kernel_rfl)) rfl ?_
      refine Done.good RS.out Q.out.1 ?_ (keeps_set4 K9.out ZW.out _ _ _ _)
      have nd := Q.out.2.newD
      exact (nd.keep (keeps_at4 wc Z _ _ _ _) (fun b hb e => by have e' : b = Z := e; have := (nd.range b hb).1; have := NB.out; omega)).low NB.out.2.2
end Go.Proofs.Ytfcpbpfemmdklaa
