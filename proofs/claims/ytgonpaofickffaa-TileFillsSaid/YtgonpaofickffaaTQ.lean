/- The places that change. -/
import Derived.Test.YtgonpaofickffaaTP
namespace Go.Proofs.Ytgonpaofickffaa
open Go.RowKit Go.Maps Go.Shelf
attribute [local go_sem] Oper.semAt_some
set_option linter.unusedVariables false

/-- A place changes where an area is filled. -/
def Chg (S : St) (p : Pl) (xf xt yf yt v i j : Nat) : Prop := i < 2048 ∧ j < 2048 ∧ ∃ x y, InArea (xf - i * 16) (min ((xt : Int) - (i : Int) * 16) 16) (yf - j * 16) (min ((yt : Int) - (j : Int) * 16) 16) x y ∧ pixAt S p i j (y * 16 + x) ≠ v
noncomputable def chs (S : St) (p : Pl) (xf xt yf yt v : Nat) (pre : List Plc) : List Plc := pre.filter (fun q => @decide (Chg S p xf xt yf yt v q.1.1 q.1.2) (Classical.propDecidable _))
/-- How many of places a plane has no tile for itself at. -/
noncomputable def needs (S : St) (p : Pl) (l : List Plc) : Nat := l.countP (fun q => @decide (¬ aloneP S p q.1.1 q.1.2) (Classical.propDecidable _))
def flatP (l : List Plc) : List Value := l.flatMap (fun q => [.int .i64 (q.1.1 : Int), .int .i64 (q.1.2 : Int)])
theorem flatP_length (l : List Plc) : (flatP l).length = l.length * 2 := by
  induction l with
  | nil => rfl
  | cons q l ih =>
    simp only [flatP, List.flatMap_cons, List.length_append, List.length_cons, List.length_nil] at ih ⊢
    omega
theorem flatP_snoc (l : List Plc) (q : Plc) : flatP (l ++ [q]) = flatP l ++ [.int .i64 (q.1.1 : Int), .int .i64 (q.1.2 : Int)] := by simp [flatP]

theorem heap_atQ {w : World} {o : Obj} {k : Nat} (h : k = w.heap.size) : (w.alloc o).heap[k]? = some o := by rw [h]; exact heap_alloc_new _ _
theorem heap_pastQ {w : World} {o : Obj} {k : Nat} {v : Option Obj} (h : k < w.heap.size) (h2 : w.heap[k]? = v) : (w.alloc o).heap[k]? = v := (Below.heap_alloc _ _ _ h).trans h2
/-- The call's own blocks while places are gathered. -/
structure ChG (w : World) (S : St) (p : Pl) (xf xt yf yt v : Nat) (pre : List Plc) (m : Nat) (W : World) : Prop where
  k : Keeps none' w W
  b0 : Boxed W w.heap.size 26 (.pointer (some ⟨p.pb, 0, none⟩))
  b1 : W.heap[w.heap.size + 1]? = some (.cells #[.int .i64 (xf : Int), .int .i64 (xt : Int), .int .i64 (yf : Int), .int .i64 (yt : Int)] 82 (0, 0))
  b2 : Boxed W (w.heap.size + 1 + 1) 67 (.int .u32 (v : Int))
  b3 : Boxed W (w.heap.size + 1 + 1 + 1) 83 (.slice none 0 0)
  b4 : Boxed W (w.heap.size + 1 + 1 + 1 + 1) 27 (.int .i64 0)
  b5 : ∃ s, Boxed W (w.heap.size + 1 + 1 + 1 + 1 + 1) 83 s ∧ W.ownsRow w.heap.size 70 2 s (chs S p xf xt yf yt v pre).length (flatP (chs S p xf xt yf yt v pre))
  b6 : Boxed W (w.heap.size + 1 + 1 + 1 + 1 + 1 + 1) 3 (.int .i64 (m : Int))
theorem ChG.keep {w : World} {S : St} {p : Pl} {xf xt yf yt v m : Nat} {pre : List Plc} {W W' : World} (h : ChG w S p xf xt yf yt v pre m W) (hk : Keeps none' w W') (hs : ∀ (b : Nat) (c : Array Value) (t : TypeId) (f : Nat × Nat), W.heap[b]? = some (Obj.cells c t f) → W'.heap[b]? = W.heap[b]?) : ChG w S p xf xt yf yt v pre m W' := by
  obtain ⟨k, b0, b1, b2, b3, b4, ⟨s, b5, b5'⟩, b6⟩ := h
  refine ⟨hk, (hs _ _ _ _ b0).trans b0, (hs _ _ _ _ b1).trans b1, (hs _ _ _ _ b2).trans b2, (hs _ _ _ _ b3).trans b3, (hs _ _ _ _ b4).trans b4, ⟨s, (hs _ _ _ _ b5).trans b5, b5'.1, ?_⟩, (hs _ _ _ _ b6).trans b6⟩
  rcases b5'.2 with h2 | ⟨g, cap, cur, rfl, hg, hh, r⟩
  · exact Or.inl h2
  · exact Or.inr ⟨g, cap, cur, rfl, hg, (hs _ _ _ _ hh).trans hh, r⟩
theorem ChG.later {w : World} {S : St} {p : Pl} {xf xt yf yt v m : Nat} {pre : List Plc} {W W' : World} (h : ChG w S p xf xt yf yt v pre m W) (hk : Keeps none' W W') : ChG w S p xf xt yf yt v pre m W' :=
  h.keep (h.k.trans hk (fun _ _ h => h)) (fun b c t f e => hk.later b (lt_of_block e))
theorem ChG.skip {w : World} {S : St} {p : Pl} {xf xt yf yt v m : Nat} {pre : List Plc} {W : World} {x : Plc} (h : ChG w S p xf xt yf yt v pre m W) (hx : ¬ Chg S p xf xt yf yt v x.1.1 x.1.2) : ChG w S p xf xt yf yt v (pre ++ [x]) m W := by
  have e : chs S p xf xt yf yt v (pre ++ [x]) = chs S p xf xt yf yt v pre := by simp [chs, hx]
  obtain ⟨k, b0, b1, b2, b3, b4, b5, b6⟩ := h
  exact ⟨k, b0, b1, b2, b3, b4, by rw [e]; exact b5, b6⟩
theorem chs_snoc {S : St} {p : Pl} {xf xt yf yt v : Nat} {pre : List Plc} {x : Plc} (hx : Chg S p xf xt yf yt v x.1.1 x.1.2) : chs S p xf xt yf yt v (pre ++ [x]) = chs S p xf xt yf yt v pre ++ [x] := by simp [chs, hx]
theorem chs_skip {S : St} {p : Pl} {xf xt yf yt v : Nat} {pre : List Plc} {x : Plc} (hx : ¬ Chg S p xf xt yf yt v x.1.1 x.1.2) : chs S p xf xt yf yt v (pre ++ [x]) = chs S p xf xt yf yt v pre := by simp [chs, hx]
theorem needs_snoc (S : St) (p : Pl) (l : List Plc) (x : Plc) : (aloneP S p x.1.1 x.1.2 → needs S p (l ++ [x]) = needs S p l) ∧ (¬ aloneP S p x.1.1 x.1.2 → needs S p (l ++ [x]) = needs S p l + 1) := by
  constructor <;> intro h <;> simp [needs, h]
/-- The own blocks are apart from one another, and from the row. -/
theorem ChG.need {w : World} {S : St} {p : Pl} {xf xt yf yt v m : Nat} {pre : List Plc} {W : World} (h : ChG w S p xf xt yf yt v pre m W) (m' : Nat) : ChG w S p xf xt yf yt v pre m' (W.setCell ⟨w.heap.size + 1 + 1 + 1 + 1 + 1 + 1, 0, none⟩ (.int .i64 (m' : Int))) ∧ KpT W (W.setCell ⟨w.heap.size + 1 + 1 + 1 + 1 + 1 + 1, 0, none⟩ (.int .i64 (m' : Int))) := by
  obtain ⟨k, b0, b1, b2, b3, b4, ⟨s, b5, b5'⟩, b6⟩ := h
  have oth : ∀ b, b ≠ w.heap.size + 1 + 1 + 1 + 1 + 1 + 1 → (W.setCell ⟨w.heap.size + 1 + 1 + 1 + 1 + 1 + 1, 0, none⟩ (.int .i64 (m' : Int))).heap[b]? = W.heap[b]? := fun b hb => Below.heap_setCell _ _ _ _ hb
  refine ⟨⟨k.setCell (fun hlt => by simp only at hlt; omega) _, (oth _ (by omega)).trans b0, (oth _ (by omega)).trans b1, (oth _ (by omega)).trans b2, (oth _ (by omega)).trans b3, (oth _ (by omega)).trans b4, ⟨s, (oth _ (by omega)).trans b5, b5'.1, ?_⟩, b6.set _⟩, ⟨KeepsWalks.setCell _ _ _, fun b c f e => oth b (fun e2 => by
    rw [e2] at e
    have b6' : W.heap[w.heap.size + 1 + 1 + 1 + 1 + 1 + 1]? = some (Obj.cells #[.int .i64 (m : Int)] 3 (0, 0)) := b6
    rw [b6'] at e
    cases e)⟩⟩
  rcases b5'.2 with h2 | ⟨g, cap, cur, rfl, hg, hh, r⟩
  · exact Or.inl h2
  · refine Or.inr ⟨g, cap, cur, rfl, hg, (oth _ (fun e => ?_)).trans hh, r⟩
    have b6' : W.heap[w.heap.size + 1 + 1 + 1 + 1 + 1 + 1]? = some (Obj.cells #[.int .i64 (m : Int)] 3 (0, 0)) := b6
    rw [e, b6'] at hh
    cases hh
def ChI (w : World) (S : St) (p : Pl) (xf xt yf yt v : Nat) (pre : List Plc) (W : World) : Prop := ChG w S p xf xt yf yt v pre (needs S p (chs S p xf xt yf yt v pre)) W ∧ needs S p (chs S p xf xt yf yt v pre) ≤ S.free
theorem ChI.own (w : World) (S : St) (p : Pl) (xf xt yf yt v B : Nat) (hB : w.heap.size ≤ B) : OwnFrom B (ChI w S p xf xt yf yt v) := by
  intro pre W W' row h hg hr
  refine ⟨h.1.keep (h.1.k.grown hg (fun k hk e => ?_)) (fun b c t f e => hg.block b (lt_of_block e) (fun e2 => ?_)), h.2⟩
  · obtain ⟨h1, -⟩ := hr k e
    exact absurd hk (by omega)
  · obtain ⟨-, o, ho, hc⟩ := hr b e2.symm
    rw [e] at ho
    cases ho
    simp [Obj.isCells] at hc
theorem ChG.push {w : World} {S : St} {p : Pl} {xf xt yf yt v m : Nat} {pre : List Plc} {W w1 : World} {x : Plc} {tmp : Obj} {s v' : Value} (h : ChG w S p xf xt yf yt v pre m W) (hx : Chg S p xf xt yf yt v x.1.1 x.1.2)
    (bs : Boxed W (w.heap.size + 1 + 1 + 1 + 1 + 1) 83 s) (hrow : W.ownsRow w.heap.size 70 2 s (chs S p xf xt yf yt v pre).length (flatP (chs S p xf xt yf yt v pre)))
    (hown' : w1.ownsRow w.heap.size 70 2 v' ((chs S p xf xt yf yt v pre).length + 1) (flatP (chs S p xf xt yf yt v pre) ++ [.int .i64 (x.1.1 : Int), .int .i64 (x.1.2 : Int)])) (hgrow : (W.alloc tmp).grownBy w1 s.ownBlock) (B : Nat) :
    (w1.cell? ⟨w.heap.size + 1 + 1 + 1 + 1 + 1, 0, none⟩ = some s ∧ w1.frozen? ⟨w.heap.size + 1 + 1 + 1 + 1 + 1, 0, none⟩ = false) ∧
    ChG w S p xf xt yf yt v (pre ++ [x]) m (w1.setCell ⟨w.heap.size + 1 + 1 + 1 + 1 + 1, 0, none⟩ v') ∧ KpT W (w1.setCell ⟨w.heap.size + 1 + 1 + 1 + 1 + 1, 0, none⟩ v') ∧ KeepsFrom B W (w1.setCell ⟨w.heap.size + 1 + 1 + 1 + 1 + 1, 0, none⟩ v') := by
  obtain ⟨q1, q2, q3, q4, q5⟩ := bs.appended (tmp := tmp) (by decide) hrow h.k.size (by omega) hown' hgrow
  have oth : ∀ (b : Nat) (c : Array Value) (t : TypeId) (f : Nat × Nat), W.heap[b]? = some (Obj.cells c t f) → t ≠ 70 → b ≠ w.heap.size + 1 + 1 + 1 + 1 + 1 → (w1.setCell ⟨w.heap.size + 1 + 1 + 1 + 1 + 1, 0, none⟩ v').heap[b]? = W.heap[b]? := by
    intro b c t f e ht hb
    rw [Below.heap_setCell _ _ _ _ hb]
    have hlt := lt_of_block e
    have e2 : (W.alloc tmp).heap[b]? = W.heap[b]? := Below.heap_alloc _ _ _ hlt
    refine (hgrow.block b (by simp; omega) (fun e3 => ?_)).trans e2
    rcases hrow.2 with ⟨rfl, -⟩ | ⟨g, cap, cur, rfl, -, hh, -⟩
    · cases e3
    · have : b = g := Option.some.inj e3
      subst this
      rw [e] at hh
      cases hh
      exact ht rfl
  obtain ⟨k, b0, b1, b2, b3, b4, -, b6⟩ := h
  refine ⟨⟨q1.cell, q1.frozen⟩, ⟨⟨q5.os.trans k.os, q5.tape.trans k.tape, q5.output.trans k.output, Nat.le_trans k.size q5.size, fun b hb hn => (q5.block b hb).trans (k.later b hb)⟩, (oth _ _ _ _ b0 (by decide) (by omega)).trans b0, (oth _ _ _ _ b1 (by decide) (by omega)).trans b1, (oth _ _ _ _ b2 (by decide) (by omega)).trans b2, (oth _ _ _ _ b3 (by decide) (by omega)).trans b3, (oth _ _ _ _ b4 (by decide) (by omega)).trans b4, ⟨v', q2, ?_⟩, (oth _ _ _ _ b6 (by decide) (by omega)).trans b6⟩, ⟨q4.walks, fun b c f e => oth b c 79 f e (by decide) (fun e2 => by
    have bs' : W.heap[w.heap.size + 1 + 1 + 1 + 1 + 1]? = some (Obj.cells #[s] 83 (0, 0)) := bs
    rw [e2, bs'] at e
    cases e)⟩, q4.from B⟩
  rw [chs_snoc hx, List.length_append, List.length_singleton, flatP_snoc]
  exact q3
theorem cell_two_new (w : World) (x y : Value) (t : TypeId) : ∀ j u, [x, y][j]? = some u → (w.alloc (.cells #[x, y] t)).cell? ((⟨w.heap.size, 0, none⟩ : Addr).add j) = some u := by
  intro j u h
  match j, h with
  | 0, h => cases h; exact cell_at rfl
  | 1, h => cases h; exact cell_at rfl
theorem info70 : (Try.prog.info? 70).map (fun i => (i.zero, i.size, i.bytes)) = some (some (.agg #[.int .i64 0, .int .i64 0]), 2, 16) := by kernel_rfl
/-- What a call tells: the places, in memory of its own; or that so many tiles aren't free. -/
def Told (w : World) (S : St) (p : Pl) (xf xt yf yt v : Nat) (e : Ending) (w' : World) : Prop :=
  Keeps none' w w' ∧ ((∃ s ds, e = .returned (.tuple #[s, .int .i64 0]) ∧ ds.Nodup ∧ (∀ i j, (∃ h, (⟨(i, j), h⟩ : Plc) ∈ ds) ↔ Chg S p xf xt yf yt v i j) ∧ needs S p ds ≤ S.free ∧ w'.ownsRow w.heap.size 70 2 s ds.length (flatP ds)) ∨
    (e = .returned (.tuple #[.slice none 0 0, .int .i64 30]) ∧ ∃ l : List Plc, l.Nodup ∧ (∀ q ∈ l, Chg S p xf xt yf yt v q.1.1 q.1.2 ∧ ¬ aloneP S p q.1.1 q.1.2) ∧ S.free < l.length))
set_option maxRecDepth 100000 in
set_option maxHeartbeats 3200000 in
theorem changing_any (w : World) (S : St) (h : Rep w S) (k : Nat) (p : Pl) (hk : S.ps[k]? = some p) (xf xt yf yt v : Nat) (h1 : xf ≤ 32768) (h2 : xt ≤ 32768) (h3 : yf ≤ 32768) (h4 : yt ≤ 32768)
    (ITER : ∀ w0 w' e, Rep w' S → Iter w0 w' p.mb xf xt yf yt v e → ∃ g B, e = .returned (.func (.func g) #[] #[.pointer (some ⟨B, 0, none⟩)]) ∧ (∀ args w, (callFunc g args).run Try.prog w = .ok (.enter g args) w) ∧ SeqStopsK Fence.wide 1 Try.prog g #[.pointer (some ⟨B, 0, none⟩)] encP KpT (Gives (Chg S p xf xt yf yt v)) (fun pre => pre.Nodup) 4194304 w') :
    Calls Try.prog 35 #[.pointer (some ⟨p.pb, 0, none⟩), .agg #[.int .i64 (xf : Int), .int .i64 (xt : Int), .int .i64 (yf : Int), .int .i64 (yt : Int)], .int .u32 (v : Int)] w (Told w S p xf xt yf yt v) := by
  obtain ⟨w7, hw7⟩ : ∃ w7, w7 = ((((((w.alloc (.cells #[.pointer (some ⟨p.pb, 0, none⟩)] 26)).alloc (.cells #[.int .i64 (xf : Int), .int .i64 (xt : Int), .int .i64 (yf : Int), .int .i64 (yt : Int)] 82)).alloc (.cells #[.int .u32 (v : Int)] 67)).alloc (.cells #[.slice none 0 0] 83)).alloc (.cells #[.int .i64 0] 27)).alloc (.cells #[.slice none 0 0] 83)).alloc (.cells #[.int .i64 0] 3) := ⟨_, rfl⟩
  have K7 : Keeps none' w w7 := by rw [hw7]; exact (((((((Keeps.refl none' w).alloc _).alloc _).alloc _).alloc _).alloc _).alloc _).alloc _
  have S7 : w7.heap.size = w.heap.size + 1 + 1 + 1 + 1 + 1 + 1 + 1 := by rw [hw7]; simp
  have c0 : w7.heap[w.heap.size]? = some (Obj.cells #[.pointer (some ⟨p.pb, 0, none⟩)] 26 (0, 0)) := by
    rw [hw7]
    refine heap_pastQ (by first | (simp; done) | (simp; omega)) ?_; refine heap_pastQ (by first | (simp; done) | (simp; omega)) ?_; refine heap_pastQ (by first | (simp; done) | (simp; omega)) ?_; refine heap_pastQ (by first | (simp; done) | (simp; omega)) ?_; refine heap_pastQ (by first | (simp; done) | (simp; omega)) ?_; refine heap_pastQ (by first | (simp; done) | (simp; omega)) ?_; exact heap_atQ (by simp)
  have c1 : w7.heap[w.heap.size + 1]? = some (Obj.cells #[.int .i64 (xf : Int), .int .i64 (xt : Int), .int .i64 (yf : Int), .int .i64 (yt : Int)] 82 (0, 0)) := by
    rw [hw7]
    refine heap_pastQ (by first | (simp; done) | (simp; omega)) ?_; refine heap_pastQ (by first | (simp; done) | (simp; omega)) ?_; refine heap_pastQ (by first | (simp; done) | (simp; omega)) ?_; refine heap_pastQ (by first | (simp; done) | (simp; omega)) ?_; refine heap_pastQ (by first | (simp; done) | (simp; omega)) ?_; exact heap_atQ (by simp)
  have c2 : w7.heap[w.heap.size + 1 + 1]? = some (Obj.cells #[.int .u32 (v : Int)] 67 (0, 0)) := by
    rw [hw7]
    refine heap_pastQ (by first | (simp; done) | (simp; omega)) ?_; refine heap_pastQ (by first | (simp; done) | (simp; omega)) ?_; refine heap_pastQ (by first | (simp; done) | (simp; omega)) ?_; refine heap_pastQ (by first | (simp; done) | (simp; omega)) ?_; exact heap_atQ (by simp)
  have c3 : w7.heap[w.heap.size + 1 + 1 + 1]? = some (Obj.cells #[.slice none 0 0] 83 (0, 0)) := by
    rw [hw7]
    refine heap_pastQ (by first | (simp; done) | (simp; omega)) ?_; refine heap_pastQ (by first | (simp; done) | (simp; omega)) ?_; refine heap_pastQ (by first | (simp; done) | (simp; omega)) ?_; exact heap_atQ (by simp)
  have c4 : w7.heap[w.heap.size + 1 + 1 + 1 + 1]? = some (Obj.cells #[.int .i64 0] 27 (0, 0)) := by
    rw [hw7]
    refine heap_pastQ (by first | (simp; done) | (simp; omega)) ?_; refine heap_pastQ (by first | (simp; done) | (simp; omega)) ?_; exact heap_atQ (by simp)
  have c5 : w7.heap[w.heap.size + 1 + 1 + 1 + 1 + 1]? = some (Obj.cells #[.slice none 0 0] 83 (0, 0)) := by
    rw [hw7]
    refine heap_pastQ (by first | (simp; done) | (simp; omega)) ?_; exact heap_atQ (by simp)
  have c6 : w7.heap[w.heap.size + 1 + 1 + 1 + 1 + 1 + 1]? = some (Obj.cells #[.int .i64 0] 3 (0, 0)) := by
    rw [hw7]
    exact heap_atQ (by simp)
  have I7 : ChI w S p xf xt yf yt v [] w7 := ⟨⟨K7, c0, c1, c2, c3, c4, ⟨.slice none 0 0, c5, World.ownsRow_nil _ _ _ _⟩, c6⟩, Nat.zero_le _⟩
  clear c0 c1 c2 c3 c4 c5 c6
  have CR := Lib.hid (reached_any w7 S (h.later K7) k p hk xf xt yf yt v h1 h2 h3 h4)
  have H := Lib.hid h
  have HK := Lib.hid hk
  have IT := Lib.hid ITER
  have I0 := Lib.hid I7
  have K0 := Lib.hid (And.intro K7 S7)
  clear h hk ITER I7 K7 S7
  refine (callsIn_wide (n := 2)).1 ?_
  refine callsIn_of_wp_marks Try.func35 rfl trivial ?_ rfl
  simp only [Try.ntmps35, List.size_toArray, List.length_cons, List.length_nil, Nat.reduceAdd, Nat.reduceSub, Array.replicate_succ, Array.replicate_zero, List.push_toArray, List.append_toArray, List.nil_append, List.cons_append]
  gi_wp2_with fail
  refine ⟨trivial, ?_⟩
  rw [← hw7]
  clear hw7
  refine (callsIn_wide.2 CR.out).mono ?_
  rintro e w8 ⟨hit, hk8⟩
  obtain ⟨g, B, rfl, hent, hseq⟩ := IT.out w7 w8 e (H.out.later (K0.out.1.trans hk8 (fun _ _ h => h))) hit
  have I8 := Lib.hid (show ChI w S p xf xt yf yt v [] w8 from ⟨I0.out.1.later hk8, I0.out.2⟩)
  have Z8 := Lib.hid (show w.heap.size + 1 + 1 + 1 + 1 + 1 + 1 + 1 ≤ w8.heap.size from by have := K0.out.2; have := hk8.size; omega)
  have SQ := Lib.hid hseq
  have EN := Lib.hid hent
  clear hseq hent hit hk8 IT CR I0
  gi_wp2_with fail
  refine wpIn_rangeFunc_ownH rfl (by decide) (gf := g) (lb := #[.pointer (some ⟨B, 0, none⟩)]) rfl trivial EN.out SQ.out KpT.t KpT.b (Below.refl _ _) (fun _ => rfl)
    (fun pre W => ChI w S p xf xt yf yt v pre W ∧ w8.heap.size ≤ W.heap.size)
    (fun c pre W => c = .ret ∧ Keeps none' w W ∧ Boxed W (w.heap.size + 1 + 1 + 1) 83 (.slice none 0 0) ∧ Boxed W (w.heap.size + 1 + 1 + 1 + 1) 27 (.int .i64 30) ∧ S.free < needs S p (chs S p xf xt yf yt v pre))
    (OwnFrom.and (ChI.own w S p xf xt yf yt v _ (by have := Z8.out; omega)) (fun s W W' row h hg _ => Nat.le_trans h hg.size))
    (fun c pre W W' row h hg hr => ?hix)
    ⟨I8.out, Nat.le_refl _⟩
    (fun x a' W => ∃ Bx, w8.heap.size ≤ Bx ∧ W.heap[Bx]? = some (.cells #[.int .i64 (x.1.1 : Int), .int .i64 (x.1.2 : Int)] 70 (0, 0)) ∧ a' = { tmps := #[.pointer (some ⟨p.pb, 0, none⟩), .agg #[.int .i64 (xf : Int), .int .i64 (xt : Int), .int .i64 (yf : Int), .int .i64 (yt : Int)], .int .u32 (v : Int),
      .pointer (some ⟨w.heap.size, 0, none⟩), .pointer (some ⟨w.heap.size + 1, 0, none⟩), .pointer (some ⟨w.heap.size + 1 + 1, 0, none⟩), .pointer (some ⟨w.heap.size + 1 + 1 + 1, 0, none⟩), .pointer (some ⟨w.heap.size + 1 + 1 + 1 + 1, 0, none⟩), .pointer (some ⟨w.heap.size + 1 + 1 + 1 + 1 + 1, 0, none⟩), .pointer (some ⟨w.heap.size + 1 + 1 + 1 + 1 + 1 + 1, 0, none⟩),
      .pointer (some ⟨Bx, 0, none⟩), undef, .pointer (some ⟨p.pb, 0, none⟩), .agg #[.int .i64 (xf : Int), .int .i64 (xt : Int), .int .i64 (yf : Int), .int .i64 (yt : Int)], .int .u32 (v : Int), .func (.func g) #[] #[.pointer (some ⟨B, 0, none⟩)], .agg #[.int .i64 (x.1.1 : Int), .int .i64 (x.1.2 : Int)],
      undef, undef, undef, undef, undef, undef, undef, undef, undef, undef, undef, undef, undef, undef, undef, undef, undef, undef, undef, undef, undef, undef, undef, undef, undef, undef, undef, undef, undef, undef, undef, undef], defers := [] })
    (fun x a' u W W' row h hg hr => ?hax) ?assign ?body ?done ?stop
  case hix =>
    obtain ⟨q1, q2, q3, q4, q5⟩ := h
    have hsame : ∀ (b : Nat) (c : Array Value) (t : TypeId) (f : Nat × Nat), W.heap[b]? = some (Obj.cells c t f) → W'.heap[b]? = W.heap[b]? := fun b c t f e => hg.block b (lt_of_block e) (fun e2 => by
      obtain ⟨-, o, ho, hc⟩ := hr b e2.symm
      rw [e] at ho
      cases ho
      simp [Obj.isCells] at hc)
    exact ⟨q1, q2.grown hg (fun k hk e => by have := (hr k e).1; have := Z8.out; omega), (hsame _ _ _ _ q3).trans q3, (hsame _ _ _ _ q4).trans q4, q5⟩
  case hax =>
    obtain ⟨Bx, q1, q2, q3⟩ := h
    exact ⟨Bx, q1, (hg.block _ (lt_of_block q2) (fun e => by
      obtain ⟨-, o, ho, hc⟩ := hr Bx e.symm
      rw [q2] at ho
      cases ho
      simp [Obj.isCells] at hc)).trans q2, q3⟩
  case assign =>
    rintro l pre x W K hi hK
    gi_wp2
    exact hK _ _ ((KeepsOthers.alloc _ _).from _) (KpT.keeps ((Keeps.refl _ _).alloc _)) ⟨⟨hi.1.1.later ((Keeps.refl none' W).alloc _), hi.1.2⟩, by simp; have := hi.2; omega⟩ ⟨W.heap.size, hi.2, heap_alloc_new _ _, rfl⟩
  case body =>
    rintro l pre x a' W hl ⟨rr, hrr⟩ hi ⟨Bx, hBx, bX, rfl⟩ hlt
    have mixed : Try.prog.follows .mixedOrders = true := by kernel_rfl
    obtain ⟨⟨i, j⟩, hij⟩ := x
    simp only at bX ⊢
    have HR := Lib.hid (H.out.later hi.1.1.k)
    have HI := Lib.hid hi
    have BX := Lib.hid bX
    have LK : ∀ w', Keeps none' W w' → (w'.cell? ⟨w.heap.size, 0, none⟩ = some (.pointer (some ⟨p.pb, 0, none⟩)) ∧ w'.cell? ⟨p.pb, 3, none⟩ = some (.map (some p.mb)) ∧ w'.cell? ⟨Bx, 0, none⟩ = some (.int .i64 (i : Int)) ∧ w'.cell? ⟨Bx, 1, none⟩ = some (.int .i64 (j : Int))) ∧
        (w'.cell? ⟨w.heap.size + 1, 0, none⟩ = some (.int .i64 (xf : Int)) ∧ w'.cell? ⟨w.heap.size + 1, 1, none⟩ = some (.int .i64 (xt : Int)) ∧ w'.cell? ⟨w.heap.size + 1, 2, none⟩ = some (.int .i64 (yf : Int)) ∧ w'.cell? ⟨w.heap.size + 1, 3, none⟩ = some (.int .i64 (yt : Int)) ∧ w'.cell? ⟨w.heap.size + 1 + 1, 0, none⟩ = some (.int .u32 (v : Int))) ∧
        (Instr.lookup 61 (.map (some p.mb)) (.agg #[.int .i64 (i : Int), .int .i64 (j : Int)]) false).run Try.prog w' = .ok (tileV (p.T i j)) w' := by
      intro w' hk
      have h' := HR.out.later hk
      have e0 := (hk.later _ (lt_of_block hi.1.1.b0)).trans hi.1.1.b0
      have e1 := (hk.later _ (lt_of_block hi.1.1.b1)).trans hi.1.1.b1
      have e2 := (hk.later _ (lt_of_block hi.1.1.b2)).trans hi.1.1.b2
      have e3 := (hk.later _ (lt_of_block bX)).trans bX
      exact ⟨⟨by simp [World.cell?, e0], (h'.cells HK.out).2.2.2, by simp [World.cell?, e3], by simp [World.cell?, e3]⟩, ⟨by simp [World.cell?, e1], by simp [World.cell?, e1], by simp [World.cell?, e1], by simp [World.cell?, e1], by simp [World.cell?, e2]⟩, h'.lookup HK.out i j (by omega) (by omega) 0⟩
    have LK := Lib.hid LK
    obtain ⟨⟨x0, x1, x2, x3⟩, ⟨y0, y1, y2, y3, y4⟩, lk⟩ := LK.out W (Keeps.refl _ _)
    have lk2 := (LK.out W.drew (Keeps.refl none' W).drew).2.2
    obtain ⟨u, hu⟩ : ∃ u, u = tileV (p.T i j) := ⟨_, rfl⟩
    rw [← hu] at lk lk2
    have HU := Lib.hid hu
    clear hi hu bX
    have CW := areaWithin_any xf xt yf yt i j h1 h2 h3 h4 (by omega) (by omega)
    simp only [inTile] at CW
    obtain ⟨a1, ha1⟩ : ∃ a1, a1 = xf - i * 16 := ⟨_, rfl⟩
    obtain ⟨a2, ha2⟩ : ∃ a2, a2 = min ((xt : Int) - (i : Int) * 16) 16 := ⟨_, rfl⟩
    obtain ⟨b1, hb1⟩ : ∃ b1, b1 = yf - j * 16 := ⟨_, rfl⟩
    obtain ⟨b2, hb2⟩ : ∃ b2, b2 = min ((yt : Int) - (j : Int) * 16) 16 := ⟨_, rfl⟩
    rw [← ha1, ← ha2, ← hb1, ← hb2] at CW
    have CW := Lib.hid CW
    have HAB := Lib.hid (And.intro ha1 (And.intro ha2 (And.intro hb1 hb2)))
    have CDF : ∀ w', Keeps none' W w' → Calls Try.prog 43 #[u, .agg #[.int .i64 (a1 : Int), .int .i64 a2, .int .i64 (b1 : Int), .int .i64 b2], .int .u32 (v : Int)] w' fun e w'' => (∃ bb, e = .returned (.bool bb) ∧ (bb = true ↔ Chg S p xf xt yf yt v i j)) ∧ Keeps none' W w'' := by
      intro w' hk
      have := differs_any w' _ _ _ ((HR.out.later hk).lookD HK.out i j) a1 b1 a2 b2 (by omega) (by omega) (by omega) (by omega) v
      rw [← HU.out] at this
      refine this.mono ?_
      rintro e w'' ⟨⟨bb, rfl, hbb⟩, hk2⟩
      refine ⟨⟨bb, rfl, hbb.trans ?_⟩, hk.trans hk2 (fun _ _ h => h)⟩
      unfold Chg
      rw [← ha1, ← ha2, ← hb1, ← hb2]
      exact ⟨fun h => ⟨hij.1, hij.2, h⟩, fun h => h.2.2⟩
    have CDF := Lib.hid CDF
    clear ha1 ha2 hb1 hb2
    gi_wp2
    rename_i K hK
    have REST : K { tmps := #[.pointer (some ⟨p.pb, 0, none⟩), .agg #[.int .i64 (xf : Int), .int .i64 (xt : Int), .int .i64 (yf : Int), .int .i64 (yt : Int)], .int .u32 (v : Int), .pointer (some ⟨w.heap.size, 0, none⟩), .pointer (some ⟨w.heap.size + 1, 0, none⟩), .pointer (some ⟨w.heap.size + 1 + 1, 0, none⟩), .pointer (some ⟨w.heap.size + 1 + 1 + 1, 0, none⟩), .pointer (some ⟨w.heap.size + 1 + 1 + 1 + 1, 0, none⟩), .pointer (some ⟨w.heap.size + 1 + 1 + 1 + 1 + 1, 0, none⟩), .pointer (some ⟨w.heap.size + 1 + 1 + 1 + 1 + 1 + 1, 0, none⟩), .pointer (some ⟨Bx, 0, none⟩), u, .pointer (some ⟨p.pb, 0, none⟩), .agg #[.int .i64 (xf : Int), .int .i64 (xt : Int), .int .i64 (yf : Int), .int .i64 (yt : Int)], .int .u32 (v : Int), .func (.func g) #[] #[.pointer (some ⟨B, 0, none⟩)], .agg #[.int .i64 (i : Int), .int .i64 (j : Int)], .pointer (some ⟨p.pb, 0, none⟩), .pointer (some ⟨p.pb, 0, none⟩), .pointer (some ⟨p.pb, 3, none⟩), .map (some p.mb), .agg #[.int .i64 (i : Int), .int .i64 (j : Int)], u, undef, undef, undef, undef, undef, undef, undef, undef, undef, undef, undef, undef, undef, undef, undef, undef, undef, undef, undef, undef, undef, undef, undef, undef, undef, undef], defers := [] } W.drew := by
      refine hK _ _ ?_
      obtain ⟨⟨x0, x1, x2, x3⟩, ⟨y0, y1, y2, y3, y4⟩, lk⟩ := LK.out W.drew (Keeps.refl none' W).drew
      gi_wp2
      rename_i K2 hK2
      have REST2 : ∀ (w5 : World) (bb : Bool), Keeps none' W w5 → (bb = true ↔ Chg S p xf xt yf yt v i j) → K2 { tmps := #[.pointer (some ⟨p.pb, 0, none⟩), .agg #[.int .i64 (xf : Int), .int .i64 (xt : Int), .int .i64 (yf : Int), .int .i64 (yt : Int)], .int .u32 (v : Int), .pointer (some ⟨w.heap.size, 0, none⟩), .pointer (some ⟨w.heap.size + 1, 0, none⟩), .pointer (some ⟨w.heap.size + 1 + 1, 0, none⟩), .pointer (some ⟨w.heap.size + 1 + 1 + 1, 0, none⟩), .pointer (some ⟨w.heap.size + 1 + 1 + 1 + 1, 0, none⟩), .pointer (some ⟨w.heap.size + 1 + 1 + 1 + 1 + 1, 0, none⟩), .pointer (some ⟨w.heap.size + 1 + 1 + 1 + 1 + 1 + 1, 0, none⟩), .pointer (some ⟨Bx, 0, none⟩), u, .pointer (some ⟨p.pb, 0, none⟩), .agg #[.int .i64 (xf : Int), .int .i64 (xt : Int), .int .i64 (yf : Int), .int .i64 (yt : Int)], .int .u32 (v : Int), .func (.func g) #[] #[.pointer (some ⟨B, 0, none⟩)], .agg #[.int .i64 (i : Int), .int .i64 (j : Int)], .pointer (some ⟨p.pb, 0, none⟩), .pointer (some ⟨p.pb, 0, none⟩), .pointer (some ⟨p.pb, 3, none⟩), .map (some p.mb), .agg #[.int .i64 (i : Int), .int .i64 (j : Int)], u, u, .agg #[.int .i64 (xf : Int), .int .i64 (xt : Int), .int .i64 (yf : Int), .int .i64 (yt : Int)], .agg #[.int .i64 (i : Int), .int .i64 (j : Int)], .agg #[.int .i64 (a1 : Int), .int .i64 a2, .int .i64 (b1 : Int), .int .i64 b2], .int .u32 (v : Int), .bool bb, .bool (!bb), undef, undef, undef, undef, undef, undef, undef, undef, undef, undef, undef, undef, undef, undef, undef, undef, undef, undef, undef], defers := [] } w5 := by
        intro w5 bb hk5 hbb
        refine hK2 _ _ ?_
        have hi5 := HI.out.1.1.later hk5
        have hr5 := HR.out.later hk5
        have hsz : w8.heap.size ≤ w5.heap.size := Nat.le_trans HI.out.2 hk5.size
        have KF5 : KeepsFrom w8.heap.size W w5 := ⟨hk5.size, fun k o _ hk _ => (hk5.later k (Array.getElem?_eq_some_iff.1 hk).1).trans hk⟩
        have bX5 : w5.heap[Bx]? = some (.cells #[.int .i64 (i : Int), .int .i64 (j : Int)] 70 (0, 0)) := (hk5.later _ (lt_of_block BX.out)).trans BX.out
        obtain ⟨m, hm⟩ : ∃ m, m = needs S p (chs S p xf xt yf yt v pre) := ⟨_, rfl⟩
        have hfit : m ≤ S.free := by rw [hm]; exact HI.out.1.2
        have hfree : S.free ≤ 1048576 := by have := H.out.cap; have : S.free = S.cap - S.live.length := rfl; omega
        rw [← hm] at hi5
        have HM := Lib.hid hm
        clear hm
        cases bb with
        | false =>
          have hnc : ¬ Chg S p xf xt yf yt v i j := fun h => by cases hbb.2 h
          have X := Lib.hid (show (ChI w S p xf xt yf yt v (pre ++ [⟨(i, j), hij⟩]) w5 ∧ w8.heap.size ≤ w5.heap.size) ∧ KeepsFrom w8.heap.size W w5 ∧ KpT W w5 from ⟨⟨⟨by rw [chs_skip hnc, ← HM.out]; exact hi5.skip hnc, by rw [chs_skip hnc]; exact HI.out.1.2⟩, hsz⟩, KF5, KpT.keeps hk5⟩)
          clear hi5 hr5 hsz KF5 bX5 hnc hbb hk5 x0 x1 x2 x3 y0 y1 y2 y3 y4 lk
          gi_wp2
          exact ⟨X.out.2.1, X.out.2.2, X.out.1⟩
        | true =>
          have hc : Chg S p xf xt yf yt v i j := hbb.1 rfl
          have CN := alone_any w5 _ _ _ (hr5.lookD HK.out i j)
          rw [← HU.out] at CN
          obtain ⟨i0, hi0, hz0, hz1, hz2⟩ := info_parts info70
          have TAIL : ∀ (W6 : World) (m' : Nat), ChG w S p xf xt yf yt v pre m' W6 → KpT W W6 → KeepsFrom w8.heap.size W W6 → m' ≤ S.free → needs S p (chs S p xf xt yf yt v (pre ++ [⟨(i, j), hij⟩])) = m' → w8.heap.size ≤ W6.heap.size →
              ∀ (tmp : Obj) (s v' : Value) (w1 : World), Boxed W6 (w.heap.size + 1 + 1 + 1 + 1 + 1) 83 s → W6.ownsRow w.heap.size 70 2 s (chs S p xf xt yf yt v pre).length (flatP (chs S p xf xt yf yt v pre)) →
              w1.ownsRow w.heap.size 70 2 v' ((chs S p xf xt yf yt v pre).length + 1) (flatP (chs S p xf xt yf yt v pre) ++ [.int .i64 (i : Int), .int .i64 (j : Int)]) → (W6.alloc tmp).grownBy w1 s.ownBlock →
              (w1.cell? ⟨w.heap.size + 1 + 1 + 1 + 1 + 1, 0, none⟩ = some s ∧ w1.frozen? ⟨w.heap.size + 1 + 1 + 1 + 1 + 1, 0, none⟩ = false) ∧
              Hid (KeepsFrom w8.heap.size W (w1.setCell ⟨w.heap.size + 1 + 1 + 1 + 1 + 1, 0, none⟩ v') ∧ KpT W (w1.setCell ⟨w.heap.size + 1 + 1 + 1 + 1 + 1, 0, none⟩ v') ∧ (ChI w S p xf xt yf yt v (pre ++ [⟨(i, j), hij⟩]) (w1.setCell ⟨w.heap.size + 1 + 1 + 1 + 1 + 1, 0, none⟩ v') ∧ w8.heap.size ≤ (w1.setCell ⟨w.heap.size + 1 + 1 + 1 + 1 + 1, 0, none⟩ v').heap.size)) := by
            intro W6 m' hG hKp hKF hf hn hs tmp s v' w1 bs hrow hown hgrow
            obtain ⟨r1, r2, r3, r4⟩ := hG.push (x := ⟨(i, j), hij⟩) hc bs hrow hown hgrow w8.heap.size
            refine ⟨r1, Lib.hid ⟨hKF.trans r4, hKp.t r3, ⟨?_, ?_⟩, Nat.le_trans hs r3.1.size⟩⟩
            · rw [hn]; exact r2
            · rw [hn]; exact hf
          have TAIL := Lib.hid TAIL
          have NS := Lib.hid (needs_snoc S p (chs S p xf xt yf yt v pre) ⟨(i, j), hij⟩)
          have HCS := Lib.hid (chs_snoc (pre := pre) (x := ⟨(i, j), hij⟩) hc)
          have LEN : (chs S p xf xt yf yt v pre).length ≤ 4194304 := Nat.le_trans (List.length_filter_le _ _) (Nat.le_of_lt hlt)
          by_cases hal : cntAt S p i j = 1
          · rw [decide_eq_true hal] at CN
            have u9 : decide ((S.free : Int) < (m : Int)) = false := decide_eq_false (by omega)
            have u9n : decide (S.free < m) = false := decide_eq_false (by omega)
            have CN := Lib.hid CN
            have TL := Lib.hid (TAIL.out w5 m hi5 (KpT.keeps hk5) KF5 hfit (by rw [HCS.out, (NS.out).1 (cntAt_one.1 hal), HM.out]) hsz)
            have hG := hi5
            have hbX := bX5
            clear TAIL NS HCS hi5 hr5 hsz KF5 bX5 hbb hk5 x0 x1 x2 x3 y0 y1 y2 y3 y4 lk hc hal
            gi_wp2_with (refine ⟨trivial, rfl, ?_⟩; gi_at_call 32; refine (CallsIn.inRound l (callsIn_wide.2 CN.out)).mono ?_; rintro e W6 ⟨rfl, rfl⟩)
            have hr6 : Rep W6 S := H.out.later hG.k
            obtain ⟨s, bs, hrow⟩ := hG.b5
            have c5 := bs.cell
            have f5 := bs.frozen
            have c6 := hG.b6.cell
            have z0 := hG.b0.cell
            have z1 := (hr6.cells HK.out).1
            have z2 := hr6.free.1
            have xb0 : W6.cell? ⟨Bx, 0, none⟩ = some (.int .i64 (i : Int)) := by simp [World.cell?, hbX]
            have xb1 : W6.cell? ⟨Bx, 1, none⟩ = some (.int .i64 (j : Int)) := by simp [World.cell?, hbX]
            have Z6 := Lib.hid (show w.heap.size ≤ W6.heap.size from hG.k.size)
            have HROW := Lib.hid hrow
            have HBS := Lib.hid bs
            clear hr6 bs hrow hG hbX
            rename_i K9 hK9
            have REST9 : K9 { tmps := #[.pointer (some ⟨p.pb, 0, none⟩), .agg #[.int .i64 (xf : Int), .int .i64 (xt : Int), .int .i64 (yf : Int), .int .i64 (yt : Int)], .int .u32 (v : Int), .pointer (some ⟨w.heap.size, 0, none⟩), .pointer (some ⟨w.heap.size + 1, 0, none⟩), .pointer (some ⟨w.heap.size + 1 + 1, 0, none⟩), .pointer (some ⟨w.heap.size + 1 + 1 + 1, 0, none⟩), .pointer (some ⟨w.heap.size + 1 + 1 + 1 + 1, 0, none⟩), .pointer (some ⟨w.heap.size + 1 + 1 + 1 + 1 + 1, 0, none⟩), .pointer (some ⟨w.heap.size + 1 + 1 + 1 + 1 + 1 + 1, 0, none⟩), .pointer (some ⟨Bx, 0, none⟩), u, .pointer (some ⟨p.pb, 0, none⟩), .agg #[.int .i64 (xf : Int), .int .i64 (xt : Int), .int .i64 (yf : Int), .int .i64 (yt : Int)], .int .u32 (v : Int), .func (.func g) #[] #[.pointer (some ⟨B, 0, none⟩)], .agg #[.int .i64 (i : Int), .int .i64 (j : Int)], .pointer (some ⟨p.pb, 0, none⟩), .pointer (some ⟨p.pb, 0, none⟩), .pointer (some ⟨p.pb, 3, none⟩), .map (some p.mb), .agg #[.int .i64 (i : Int), .int .i64 (j : Int)], u, u, .agg #[.int .i64 (xf : Int), .int .i64 (xt : Int), .int .i64 (yf : Int), .int .i64 (yt : Int)], .agg #[.int .i64 (i : Int), .int .i64 (j : Int)], .agg #[.int .i64 (a1 : Int), .int .i64 a2, .int .i64 (b1 : Int), .int .i64 b2], .int .u32 (v : Int), .bool true, .bool false, u, .bool true, .bool false, undef, undef, .int .i64 (m : Int), .pointer (some ⟨p.pb, 0, none⟩), .pointer (some ⟨p.pb, 0, none⟩), .pointer (some ⟨p.pb, 0, none⟩), .pointer (some ⟨S.A, 0, none⟩), .pointer (some ⟨S.A, 0, none⟩), .pointer (some ⟨S.A, 0, none⟩), .int .i64 (S.free : Int), .bool false, undef, undef, undef, undef, undef], defers := [] } W6.drew := by
              refine hK9 _ _ ?_
              gi_wp2_with (gi_at_builtin; refine wpListIn_append_own _ rfl _ _ 83 rfl w.heap.size 70 i0 (.agg #[.int .i64 0, .int .i64 0]) 2 16 Try.underlying83 hi0 hz0 hz1 hz2 rfl (by decide) s (chs S p xf xt yf yt v pre).length (flatP (chs S p xf xt yf yt v pre)) rfl (HROW.out.alloc _) ⟨W6.heap.size, 0, none⟩ 1 1 [.int .i64 (i : Int), .int .i64 (j : Int)] rfl rfl (cell_two_new _ _ _ _) (by simp [Value.oneCell']) (by unfold maxLen; have := LEN; omega) (by have := LEN; omega) (by have := Z6.out; simp; omega) ?_; intro v' w1 hown' hgrow hnil; obtain ⟨⟨q1, q2⟩, TX⟩ := TL.out _ s v' w1 HBS.out HROW.out hown' ⟨hgrow.os, hgrow.tape, hgrow.output, hgrow.size, hgrow.block⟩; obtain ⟨g', cap', rfl⟩ := ownsRow_succ hown'; clear hown' hgrow hnil)
              exact TX.out
            clear hK9
            gi_region_with_o fail
            all_goals exact REST9
          · rw [decide_eq_false hal] at CN
            have CN := Lib.hid CN
            have nal : ¬ aloneP S p i j := fun h => hal (cntAt_one.2 h)
            obtain ⟨n1, n2⟩ := hi5.need (m + 1)
            rw [show ((m + 1 : Nat) : Int) = (m : Int) + 1 by omega] at n1 n2
            have KF6 : KeepsFrom w8.heap.size W (w5.setCell ⟨w.heap.size + 1 + 1 + 1 + 1 + 1 + 1, 0, none⟩ (.int .i64 ((m : Int) + 1))) := KF5.trans ((KeepsOthers.setCell _ _ _).from _)
            have bX6 : (w5.setCell ⟨w.heap.size + 1 + 1 + 1 + 1 + 1 + 1, 0, none⟩ (.int .i64 ((m : Int) + 1))).heap[Bx]? = some (.cells #[.int .i64 (i : Int), .int .i64 (j : Int)] 70 (0, 0)) := (Below.heap_setCell _ _ _ _ (show Bx ≠ w.heap.size + 1 + 1 + 1 + 1 + 1 + 1 by have := Z8.out; omega)).trans bX5
            have hs6 : w8.heap.size ≤ (w5.setCell ⟨w.heap.size + 1 + 1 + 1 + 1 + 1 + 1, 0, none⟩ (.int .i64 ((m : Int) + 1))).heap.size := by simp [World.setCell]; exact hsz
            have hnd : needs S p (chs S p xf xt yf yt v (pre ++ [⟨(i, j), hij⟩])) = m + 1 := by rw [HCS.out, (NS.out).2 nal, HM.out]
            have k6 := hi5.b6.cell
            have kf6 := hi5.b6.frozen
            by_cases hft : m + 1 ≤ S.free
            · have u9 : decide ((S.free : Int) < (m : Int) + 1) = false := decide_eq_false (by omega)
              have TL := Lib.hid (TAIL.out _ (m + 1) n1 ((KpT.keeps hk5).t n2) KF6 hft hnd hs6)
              have HG := Lib.hid n1
              have HBX := Lib.hid bX6
              clear TAIL NS HCS hi5 hr5 hsz KF5 bX5 hbb hk5 x0 x1 x2 x3 y0 y1 y2 y3 y4 lk hc hal n1 n2 KF6 bX6 hs6 hnd nal
              gi_wp2_with (refine ⟨trivial, rfl, ?_⟩; gi_at_call 32; refine (CallsIn.inRound l (callsIn_wide.2 CN.out)).mono ?_; rintro e w9 ⟨rfl, rfl⟩)
              obtain ⟨W6, hW6⟩ : ∃ W6, W6 = (w9.setCell ⟨w.heap.size + 1 + 1 + 1 + 1 + 1 + 1, 0, none⟩ (.int .i64 ((m : Int) + 1))) := ⟨_, rfl⟩
              rw [← hW6] at TL HG HBX ⊢
              clear hW6 k6 kf6
              have hG := HG.out
              have hbX := HBX.out
              have hr6 : Rep W6 S := H.out.later hG.k
              obtain ⟨s, bs, hrow⟩ := hG.b5
              have c5 := bs.cell
              have f5 := bs.frozen
              have c6 := hG.b6.cell
              have z0 := hG.b0.cell
              have z1 := (hr6.cells HK.out).1
              have z2 := hr6.free.1
              have xb0 : W6.cell? ⟨Bx, 0, none⟩ = some (.int .i64 (i : Int)) := by simp [World.cell?, hbX]
              have xb1 : W6.cell? ⟨Bx, 1, none⟩ = some (.int .i64 (j : Int)) := by simp [World.cell?, hbX]
              have Z6 := Lib.hid (show w.heap.size ≤ W6.heap.size from hG.k.size)
              have HROW := Lib.hid hrow
              have HBS := Lib.hid bs
              clear hr6 bs hrow hG hbX
              rename_i K9 hK9
              have REST9 : K9 { tmps := #[.pointer (some ⟨p.pb, 0, none⟩), .agg #[.int .i64 (xf : Int), .int .i64 (xt : Int), .int .i64 (yf : Int), .int .i64 (yt : Int)], .int .u32 (v : Int), .pointer (some ⟨w.heap.size, 0, none⟩), .pointer (some ⟨w.heap.size + 1, 0, none⟩), .pointer (some ⟨w.heap.size + 1 + 1, 0, none⟩), .pointer (some ⟨w.heap.size + 1 + 1 + 1, 0, none⟩), .pointer (some ⟨w.heap.size + 1 + 1 + 1 + 1, 0, none⟩), .pointer (some ⟨w.heap.size + 1 + 1 + 1 + 1 + 1, 0, none⟩), .pointer (some ⟨w.heap.size + 1 + 1 + 1 + 1 + 1 + 1, 0, none⟩), .pointer (some ⟨Bx, 0, none⟩), u, .pointer (some ⟨p.pb, 0, none⟩), .agg #[.int .i64 (xf : Int), .int .i64 (xt : Int), .int .i64 (yf : Int), .int .i64 (yt : Int)], .int .u32 (v : Int), .func (.func g) #[] #[.pointer (some ⟨B, 0, none⟩)], .agg #[.int .i64 (i : Int), .int .i64 (j : Int)], .pointer (some ⟨p.pb, 0, none⟩), .pointer (some ⟨p.pb, 0, none⟩), .pointer (some ⟨p.pb, 3, none⟩), .map (some p.mb), .agg #[.int .i64 (i : Int), .int .i64 (j : Int)], u, u, .agg #[.int .i64 (xf : Int), .int .i64 (xt : Int), .int .i64 (yf : Int), .int .i64 (yt : Int)], .agg #[.int .i64 (i : Int), .int .i64 (j : Int)], .agg #[.int .i64 (a1 : Int), .int .i64 a2, .int .i64 (b1 : Int), .int .i64 b2], .int .u32 (v : Int), .bool true, .bool false, u, .bool false, .bool true, .int .i64 (m : Int), .int .i64 ((m : Int) + 1), .int .i64 ((m : Int) + 1), .pointer (some ⟨p.pb, 0, none⟩), .pointer (some ⟨p.pb, 0, none⟩), .pointer (some ⟨p.pb, 0, none⟩), .pointer (some ⟨S.A, 0, none⟩), .pointer (some ⟨S.A, 0, none⟩), .pointer (some ⟨S.A, 0, none⟩), .int .i64 (S.free : Int), .bool false, undef, undef, undef, undef, undef], defers := [] } W6.drew := by
                refine hK9 _ _ ?_
                gi_wp2_with (gi_at_builtin; refine wpListIn_append_own _ rfl _ _ 83 rfl w.heap.size 70 i0 (.agg #[.int .i64 0, .int .i64 0]) 2 16 Try.underlying83 hi0 hz0 hz1 hz2 rfl (by decide) s (chs S p xf xt yf yt v pre).length (flatP (chs S p xf xt yf yt v pre)) rfl (HROW.out.alloc _) ⟨W6.heap.size, 0, none⟩ 1 1 [.int .i64 (i : Int), .int .i64 (j : Int)] rfl rfl (cell_two_new _ _ _ _) (by simp [Value.oneCell']) (by unfold maxLen; have := LEN; omega) (by have := LEN; omega) (by have := Z6.out; simp; omega) ?_; intro v' w1 hown' hgrow hnil; obtain ⟨⟨q1, q2⟩, TX⟩ := TL.out _ s v' w1 HBS.out HROW.out hown' ⟨hgrow.os, hgrow.tape, hgrow.output, hgrow.size, hgrow.block⟩; obtain ⟨g', cap', rfl⟩ := ownsRow_succ hown'; clear hown' hgrow hnil)
                exact TX.out
              clear hK9
              gi_region_with_o fail
              all_goals exact REST9

            · have u9 : decide ((S.free : Int) < (m : Int) + 1) = true := decide_eq_true (by omega)
              have HG := Lib.hid n1
              have TL := Lib.hid (And.intro KF6 (show S.free < needs S p (chs S p xf xt yf yt v (pre ++ [⟨(i, j), hij⟩])) by rw [hnd]; omega))
              clear TAIL NS HCS hi5 hr5 hsz KF5 bX5 hbb hk5 x0 x1 x2 x3 y0 y1 y2 y3 y4 lk hc hal n1 n2 KF6 bX6 hs6 hnd nal
              gi_wp2_with (refine ⟨trivial, rfl, ?_⟩; gi_at_call 32; refine (CallsIn.inRound l (callsIn_wide.2 CN.out)).mono ?_; rintro e w9 ⟨rfl, rfl⟩)
              obtain ⟨W6, hW6⟩ : ∃ W6, W6 = (w9.setCell ⟨w.heap.size + 1 + 1 + 1 + 1 + 1 + 1, 0, none⟩ (.int .i64 ((m : Int) + 1))) := ⟨_, rfl⟩
              rw [← hW6] at TL HG ⊢
              clear hW6 k6 kf6
              have hr6 : Rep W6 S := H.out.later HG.out.k
              have c6 := HG.out.b6.cell
              have z0 := HG.out.b0.cell
              have z1 := (hr6.cells HK.out).1
              have z2 := hr6.free.1
              have c3 := HG.out.b3.cell
              have f3 := HG.out.b3.frozen
              have c4 := HG.out.b4.cell
              have f4 := HG.out.b4.frozen
              have EX0 : KeepsFrom w8.heap.size W ((W6.drew.setCell ⟨w.heap.size + 1 + 1 + 1, 0, none⟩ (.slice none 0 0)).setCell ⟨w.heap.size + 1 + 1 + 1 + 1, 0, none⟩ (.int .i64 30)) ∧ Keeps none' w ((W6.drew.setCell ⟨w.heap.size + 1 + 1 + 1, 0, none⟩ (.slice none 0 0)).setCell ⟨w.heap.size + 1 + 1 + 1 + 1, 0, none⟩ (.int .i64 30)) ∧
                  Boxed ((W6.drew.setCell ⟨w.heap.size + 1 + 1 + 1, 0, none⟩ (.slice none 0 0)).setCell ⟨w.heap.size + 1 + 1 + 1 + 1, 0, none⟩ (.int .i64 30)) (w.heap.size + 1 + 1 + 1) 83 (.slice none 0 0) ∧ Boxed ((W6.drew.setCell ⟨w.heap.size + 1 + 1 + 1, 0, none⟩ (.slice none 0 0)).setCell ⟨w.heap.size + 1 + 1 + 1 + 1, 0, none⟩ (.int .i64 30)) (w.heap.size + 1 + 1 + 1 + 1) 27 (.int .i64 30) := by
                have b3 : Boxed W6.drew (w.heap.size + 1 + 1 + 1) 83 (.slice none 0 0) := HG.out.b3
                have b4 : Boxed W6.drew (w.heap.size + 1 + 1 + 1 + 1) 27 (.int .i64 0) := HG.out.b4
                exact ⟨((TL.out.1.trans ((KeepsOthers.drew W6).from _)).trans ((KeepsOthers.setCell _ _ _).from _)).trans ((KeepsOthers.setCell _ _ _).from _), (HG.out.k.drew.setCell (fun h => by simp only at h; omega) _).setCell (fun h => by simp only at h; omega) _, (b3.set _).other (by omega) _, (b4.other (by omega) _).set _⟩
              have EX := Lib.hid EX0
              clear EX0
              clear hr6
              rename_i K9 hK9
              have REST9 : K9 { tmps := #[.pointer (some ⟨p.pb, 0, none⟩), .agg #[.int .i64 (xf : Int), .int .i64 (xt : Int), .int .i64 (yf : Int), .int .i64 (yt : Int)], .int .u32 (v : Int), .pointer (some ⟨w.heap.size, 0, none⟩), .pointer (some ⟨w.heap.size + 1, 0, none⟩), .pointer (some ⟨w.heap.size + 1 + 1, 0, none⟩), .pointer (some ⟨w.heap.size + 1 + 1 + 1, 0, none⟩), .pointer (some ⟨w.heap.size + 1 + 1 + 1 + 1, 0, none⟩), .pointer (some ⟨w.heap.size + 1 + 1 + 1 + 1 + 1, 0, none⟩), .pointer (some ⟨w.heap.size + 1 + 1 + 1 + 1 + 1 + 1, 0, none⟩), .pointer (some ⟨Bx, 0, none⟩), u, .pointer (some ⟨p.pb, 0, none⟩), .agg #[.int .i64 (xf : Int), .int .i64 (xt : Int), .int .i64 (yf : Int), .int .i64 (yt : Int)], .int .u32 (v : Int), .func (.func g) #[] #[.pointer (some ⟨B, 0, none⟩)], .agg #[.int .i64 (i : Int), .int .i64 (j : Int)], .pointer (some ⟨p.pb, 0, none⟩), .pointer (some ⟨p.pb, 0, none⟩), .pointer (some ⟨p.pb, 3, none⟩), .map (some p.mb), .agg #[.int .i64 (i : Int), .int .i64 (j : Int)], u, u, .agg #[.int .i64 (xf : Int), .int .i64 (xt : Int), .int .i64 (yf : Int), .int .i64 (yt : Int)], .agg #[.int .i64 (i : Int), .int .i64 (j : Int)], .agg #[.int .i64 (a1 : Int), .int .i64 a2, .int .i64 (b1 : Int), .int .i64 b2], .int .u32 (v : Int), .bool true, .bool false, u, .bool false, .bool true, .int .i64 (m : Int), .int .i64 ((m : Int) + 1), .int .i64 ((m : Int) + 1), .pointer (some ⟨p.pb, 0, none⟩), .pointer (some ⟨p.pb, 0, none⟩), .pointer (some ⟨p.pb, 0, none⟩), .pointer (some ⟨S.A, 0, none⟩), .pointer (some ⟨S.A, 0, none⟩), .pointer (some ⟨S.A, 0, none⟩), .int .i64 (S.free : Int), .bool true, undef, undef, undef, undef, undef], defers := [] } W6.drew := by
                refine hK9 _ _ ?_
                gi_wp2
                exact ⟨EX.out.1, rfl, EX.out.2.1, EX.out.2.2.1, EX.out.2.2.2, TL.out.2⟩
              clear hK9
              gi_region_with_o fail
              all_goals exact REST9
      have REST2 := Lib.hid REST2
      clear hK2 hK
      gi_region_with_o (first | (refine ⟨trivial, rfl, ?_⟩; gi_at_call 37; refine (CallsIn.inRound l (callsIn_wide.2 (CW.out _))).mono ?_; rintro e w5 ⟨rfl, hx5⟩; have hx6 := Keeps.trans (show Keeps none' W _ from by first | exact (Keeps.refl none' W).drew | exact (Keeps.refl none' W).drew.drew) hx5 (fun _ _ h => h); obtain ⟨⟨x0, x1, x2, x3⟩, ⟨y0, y1, y2, y3, y4⟩, lk⟩ := LK.out w5 hx6) | (refine ⟨trivial, rfl, ?_⟩; gi_at_call 43; refine (CallsIn.inRound l (callsIn_wide.2 (CDF.out _ hx6))).mono ?_; rintro e w6 ⟨⟨bb, rfl, hbb⟩, hx7⟩))
      all_goals exact REST2.out _ _ hx7 hbb
    clear hK
    gi_region_with_o fail
    all_goals exact REST
  case done =>
    rintro D xs W hD hS ⟨hI, hsz⟩ hK
    obtain ⟨s, bs, hrow⟩ := hI.1.b5
    obtain ⟨aa, nn, cap, rfl⟩ : ∃ aa nn cap, s = .slice aa nn cap := by
      rcases hrow.2 with ⟨rfl, -⟩ | ⟨g, cap, cur, rfl, -⟩ <;> exact ⟨_, _, _, rfl⟩
    have c5 := bs.cell
    have c3 := hI.1.b3.cell
    have f3 := hI.1.b3.frozen
    have c4 := hI.1.b4.cell
    have f4 := hI.1.b4.frozen
    gi_wp2
    have d1 : D ≠ w.heap.size + 1 + 1 + 1 := by have := Z8.out; omega
    have d2 : D ≠ w.heap.size + 1 + 1 + 1 + 1 := by have := Z8.out; omega
    have hK1 : (W.setCell ⟨w.heap.size + 1 + 1 + 1, 0, none⟩ (.slice aa nn cap)).heap[D]? = some (.deferred (some [])) := (Below.heap_setCell _ _ _ _ d1).trans hK
    have hK2 : ((W.setCell ⟨w.heap.size + 1 + 1 + 1, 0, none⟩ (.slice aa nn cap)).setCell ⟨w.heap.size + 1 + 1 + 1 + 1, 0, none⟩ (.int .i64 0)).heap[D]? = some (.deferred (some [])) := (Below.heap_setCell _ _ _ _ d2).trans hK1
    refine ⟨by simp, .inl ⟨_, _, rfl, run_takeDeferred hK2, ?_⟩⟩
    have r1 := hrow.kept (grownBy_setCell' W (w.heap.size + 1 + 1 + 1) (.slice aa nn cap)) (.inr (hI.1.b3.not_row (by decide) hrow).symm)
    have g4 := hI.1.b4.other (B' := w.heap.size + 1 + 1 + 1) (by omega) (.slice aa nn cap)
    have r2 := r1.kept (grownBy_setCell' _ (w.heap.size + 1 + 1 + 1 + 1) (.int .i64 0)) (.inr (g4.not_row (by decide) r1).symm)
    have r3 := ownsRow_putObj r2 (.deferred none) hK2 rfl
    have e3 := cell_kept ((hI.1.b3.set (.slice aa nn cap)).other (B' := w.heap.size + 1 + 1 + 1 + 1) (by omega) (.int .i64 0)).cell (grownBy_putObj' _ D (.deferred none)) (fun r e => by cases e; exact ⟨_, hK2, rfl⟩)
    have e4 := cell_kept (g4.set (.int .i64 0)).cell (grownBy_putObj' _ D (.deferred none)) (fun r e => by cases e; exact ⟨_, hK2, rfl⟩)
    refine ⟨.tuple #[.slice aa nn cap, .int .i64 0], ?_, ?_, Or.inl ⟨_, chs S p xf xt yf yt v xs, rfl, hS.1.filter _, fun i j => ⟨?_, fun hc => ?_⟩, hI.2, r3⟩⟩
    · simp [results, Try.f35, go_sem, e3, e4]
    · exact ((hI.1.k.setCell (fun h => by simp only at h; omega) _).setCell (fun h => by simp only at h; omega) _).grown (grownBy_putObj' _ D (.deferred none)) (fun k hk e => by cases e; have := Z8.out; omega)
    · rintro ⟨h, hm⟩
      simpa [chs] using (List.mem_filter.1 hm).2
    · obtain ⟨h, hm⟩ := hS.2 i j hc
      exact ⟨h, List.mem_filter.2 ⟨hm, by simpa using hc⟩⟩
  case stop =>
    rintro D c pre W hD hpre ⟨rfl, q2, q3, q4, q5⟩ hK
    gi_wp2
    refine ⟨by simp, .inl ⟨_, _, rfl, run_takeDeferred hK, ?_⟩⟩
    have e3 := cell_kept q3.cell (grownBy_putObj' _ D (.deferred none)) (fun r e => by cases e; exact ⟨_, hK, rfl⟩)
    have e4 := cell_kept q4.cell (grownBy_putObj' _ D (.deferred none)) (fun r e => by cases e; exact ⟨_, hK, rfl⟩)
    refine ⟨.tuple #[.slice none 0 0, .int .i64 30], ?_, ?_, Or.inr ⟨rfl, (chs S p xf xt yf yt v pre).filter (fun q => @decide (¬ aloneP S p q.1.1 q.1.2) (Classical.propDecidable _)), (hpre.filter _).filter _, fun q hq => ?_, ?_⟩⟩
    · simp [results, Try.f35, go_sem, e3, e4]
    · exact q2.grown (grownBy_putObj' _ D (.deferred none)) (fun k hk e => by cases e; have := Z8.out; omega)
    · obtain ⟨h1, h2⟩ := List.mem_filter.1 hq
      exact ⟨by simpa [chs] using (List.mem_filter.1 h1).2, by simpa using h2⟩
    · rw [← List.countP_eq_length_filter]
      exact q5
end Go.Proofs.Ytgonpaofickffaa
