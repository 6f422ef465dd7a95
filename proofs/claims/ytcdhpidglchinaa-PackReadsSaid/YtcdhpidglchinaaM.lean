/- reader.end, GetEdit. -/
import Derived.Test.YtcdhpidglchinaaL
namespace Go.Proofs.Ytcdhpidglchinaa
open Go.RowKit Go.Lib Pk
set_option linter.unusedSimpArgs false
set_option linter.unusedVariables false

set_option maxHeartbeats 400000 in
theorem rend_any (w : World) (Q P : Nat) (s : St) (h : Rd w Q P s) (hl : s.ys.length ≤ 1000000) :
    Calls Try.prog 19 #[.pointer (some ⟨P, 0, none⟩)] w fun en w' => en = .returned (.int .i64 (fin s : Int)) ∧ Keeps (fun k => k = P) w w' := by
  have F := Lib.hid (rfail25 w Q P s h)
  obtain ⟨⟨a, n, c⟩, h⟩ := h
  have hn : s.ys.length = n := by have := h.cells.len; rw [bys_length] at this; simpa using this
  have c0 : w.cell? ⟨P, 0, none⟩ = some (.slice a n c) := cell_at (i := 0) h.block rfl
  have c1 : w.cell? ⟨P, 1, none⟩ = some (.int .i64 (s.f : Int)) := cell_at (i := 1) h.block rfl
  have HN := Lib.hid hn
  have cf := Lib.hid (fun (w1 : World) (t : RNext w Q P (s.fail 25) w1) => show w1.cell? ⟨P, 1, none⟩ = some (.int .i64 ((s.fail 25).f : Int)) from by obtain ⟨⟨g, hg⟩, _⟩ := t; exact cell_at (i := 1) hg.block rfl)
  have hn2 : n ≤ 1000000 := by omega
  clear h hl hn
  by_cases hp : 0 < n
  · go_enter Try.func19, Try.ntmps19
    go_wp2_with (go_at_call 36; ((with_reducible refine F.out.mono ?_); rintro en w1 ⟨rfl, t1⟩; have c2 := cf.out _ t1; have T1 := Lib.hid t1; clear t1))
    go_ret
    refine ⟨?_, T1.out.2⟩
    unfold fin
    rw [if_pos (by rw [HN.out]; exact hp)]
    rfl
  · have h0 : n = 0 := by omega
    subst h0
    go_enter Try.func19, Try.ntmps19
    go_wp2_with fail
    go_ret
    refine ⟨?_, Keeps.refl _ _⟩
    unfold fin
    rw [if_neg (by rw [HN.out]; omega)]
    rfl
theorem results_cell_row2 {P : Program} {fn : Func} {p u : Tmp} {ty : TypeId} (h : fn.results = #[.cell p ty, .tmp u]) (tmps : Array Value) (w : World) (g : Nat) (t : TypeId) (cs : Array Value) (fr : Nat × Nat) (d : TypeDesc)
    (hp : tmps.getD p undef = .pointer (some ⟨g, 0, none⟩)) (hg : w.heap[g]? = some (.cells cs t fr))
    (hu : P.underlying ty = some d) (hd : (match d with | .struct _ | .array _ _ => true | _ => false) = true) (hi : (P.info? ty).map (·.size) = some cs.size) :
    (results fn tmps).run P w = .ok (.tuple #[.agg cs, tmps.getD u undef]) w := by
  have hp' : tmps[p]?.getD undef = .pointer (some ⟨g, 0, none⟩) := by simpa using hp
  simp [results, h, hp', asAddr, run_loadVar_row w g t ty cs fr d hg hu hd hi]
theorem keep_low {P : Nat} {w u w' : World} (k1 : Keeps none' w u) (k : Keeps (fun k => k = P) u w') (hP : w.heap.size ≤ P) : Keeps none' w w' := k1.trans k (fun i hi x => by omega)
/-- No edit. -/
def PEd.no : PEd := ⟨0, 0, 0, 0, 0, 0, 0, 0, 0, 0, [], [], 0, 0, 0, 0, 0, 0, []⟩
theorem no_cells : (edCells PEd.no Hd.nil Hd.nil Hd.nil).toArray = Z19 := rfl
theorem EdIn.no (w : World) : EdIn w PEd.no Hd.nil Hd.nil Hd.nil := ⟨Cells.nil 1 w, Cells.nil 2 w, Cells.nil 1 w⟩
/-- What GetEdit tells of bytes. -/
def GetE (w : World) (ys : List Nat) (en : Ending) (w' : World) : Prop :=
  ∃ (e : PEd) (a b c : Hd), en = .returned (.tuple #[edV e a b c, .int .i64 (fin (getE ⟨0, ys⟩).2 : Int)]) ∧ EdIn w' e a b c ∧ (∀ x, (a.a = some x ∨ b.a = some x ∨ c.a = some x) → w.heap.size < x.block) ∧ Keeps none' w w' ∧
    ((fin (getE ⟨0, ys⟩).2 = 0 → e.ed = (getE ⟨0, ys⟩).1) ∧ (fin (getE ⟨0, ys⟩).2 ≠ 0 → e = PEd.no ∧ a = Hd.nil ∧ b = Hd.nil ∧ c = Hd.nil))
set_option maxRecDepth 100000 in
set_option maxHeartbeats 1600000 in
theorem GetEdit_any (w : World) (g : Hd) (ys : List Nat) (hc : Cells 1 w g (bys ys)) (hy : ∀ y ∈ ys, y < 256) (hl : ys.length ≤ 1000000) :
    Calls Try.prog 9 #[.slice g.a g.n g.c] w (GetE w ys) := by
  obtain ⟨v, hv⟩ : ∃ v, v = w.alloc (.cells Z19 27) := ⟨_, rfl⟩
  obtain ⟨u, hu⟩ : ∃ u, u = v.alloc (.cells #[.slice g.a g.n g.c, .int .i64 0] 54) := ⟨_, rfl⟩
  have K0 : Keeps none' w v := by rw [hv]; exact (Keeps.refl none' w).alloc _
  have K1 : Keeps none' w u := by rw [hu]; exact K0.alloc _
  have hsv : v.heap.size = w.heap.size + 1 := by rw [hv]; simp
  have hsu : u.heap.size = w.heap.size + 2 := by rw [hu]; simp; omega
  have bZ : u.heap[w.heap.size]? = some (.cells Z19 27 (0, 0)) := by
    rw [hu]
    refine (Below.heap_alloc v _ _ (by omega)).trans ?_
    rw [hv]
    exact heap_alloc_new w _
  have bP : u.heap[w.heap.size + 1]? = some (.cells #[.slice g.a g.n g.c, .int .i64 0] 54 (0, 0)) := by
    rw [hu, ← hsv]
    exact heap_alloc_new v _
  have R0 : Rd u w.heap.size (w.heap.size + 1) ⟨0, ys⟩ := ⟨g, bP, hc.later K1, fun x hx hp => (hc.at' x hx hp).2.1, by omega, hy, fun h => absurd rfl h⟩
  have C1 := Lib.hid (redit_any u w.heap.size (w.heap.size + 1) ⟨0, ys⟩ R0 hl)
  have hless := codec_edit.less ⟨0, ys⟩
  have C2 := Lib.hid (fun (w1 : World) (t : Rd w1 w.heap.size (w.heap.size + 1) (getE ⟨0, ys⟩).2) => rend_any w1 w.heap.size (w.heap.size + 1) _ t (by simp only at hless; omega))
  have BZ := Lib.hid bZ
  have HK := Lib.hid (And.intro K1 hsu)
  have hw2 : u = (w.alloc (.cells #[.int .i64 0, .int .i64 0, .int .i64 0, .int .i64 0, .int .i64 0, .int .i64 0, .int .i64 0, .int .i64 0, .int .i64 0, .int .i64 0, .slice none 0 0, .slice none 0 0, .int .i64 0, .int .i64 0, .int .i64 0, .int .i64 0, .int .i64 0, .int .i64 0, .slice none 0 0] 27)).alloc (.cells #[.slice g.a g.n g.c, .int .i64 0] 54) := by rw [hu, hv]; rfl
  clear hless R0 bP bZ hsu hsv K0 K1 hu hv hc hy hl
  obtain ⟨F, hF⟩ : ∃ F, F = fin (getE ⟨0, ys⟩).2 := ⟨_, rfl⟩
  rw [← hF] at C2
  have HF := Lib.hid hF
  clear hF
  go_enter Try.func9, Try.ntmps9
  go_upto_region 2 with (fail)
  rw [← hw2]
  clear hw2
  have sz := szEd
  have zb := fun (w1 : World) => heap_alloc_new w1 (.cells #[.int .i64 0, .int .i64 0, .int .i64 0, .int .i64 0, .int .i64 0, .int .i64 0, .int .i64 0, .int .i64 0, .int .i64 0, .int .i64 0, .slice none 0 0, .slice none 0 0, .int .i64 0, .int .i64 0, .int .i64 0, .int .i64 0, .int .i64 0, .int .i64 0, .slice none 0 0] 27)
  have ZB := Lib.hid zb
  clear zb
  have ST := Lib.hid (fun (w1 w2 : World) (e : PEd) (a b c : Hd) (hw : w2 = (w1.alloc (.cells #[.int .i64 0, .int .i64 0, .int .i64 0, .int .i64 0, .int .i64 0, .int .i64 0, .int .i64 0, .int .i64 0, .int .i64 0, .int .i64 0, .slice none 0 0, .slice none 0 0, .int .i64 0, .int .i64 0, .int .i64 0, .int .i64 0, .int .i64 0, .int .i64 0, .slice none 0 0] 27)).setRow w1.heap.size (edCells e a b c).toArray) (t : RNext u w.heap.size (w.heap.size + 1) (getE ⟨0, ys⟩).2 w1) (hi : EdIn w1 e a b c) => show Rd w2 w.heap.size (w.heap.size + 1) (getE ⟨0, ys⟩).2 ∧ EdIn w2 e a b c ∧ Keeps (fun k => k = w.heap.size + 1) u w2 ∧ w2.heap[w1.heap.size]? = some (.cells (edCells e a b c).toArray 27 (0, 0)) ∧ u.heap.size ≤ w1.heap.size ∧ w1.heap.size < w2.heap.size from by
    have k1 : Keeps none' w1 (w1.alloc (.cells #[.int .i64 0, .int .i64 0, .int .i64 0, .int .i64 0, .int .i64 0, .int .i64 0, .int .i64 0, .int .i64 0, .int .i64 0, .int .i64 0, .slice none 0 0, .slice none 0 0, .int .i64 0, .int .i64 0, .int .i64 0, .int .i64 0, .int .i64 0, .int .i64 0, .slice none 0 0] 27)) := (Keeps.refl none' w1).alloc _
    have k2 : Keeps (fun k => k = w1.heap.size) (w1.alloc (.cells #[.int .i64 0, .int .i64 0, .int .i64 0, .int .i64 0, .int .i64 0, .int .i64 0, .int .i64 0, .int .i64 0, .int .i64 0, .int .i64 0, .slice none 0 0, .slice none 0 0, .int .i64 0, .int .i64 0, .int .i64 0, .int .i64 0, .int .i64 0, .int .i64 0, .slice none 0 0] 27)) w2 := by rw [hw]; exact keeps_row _ _ _
    have k3 : Keeps none' w1 w2 := k1.trans k2 (fun i hi x => by omega)
    have hb : w2.heap[w1.heap.size]? = some (.cells (edCells e a b c).toArray 27 (0, 0)) := by rw [hw]; exact setRow_heap _ _ _ _ _ _ (ZB.out w1)
    exact ⟨t.1.later k3, hi.keep k3 (fun _ _ x => x), t.2.trans k3 (fun _ _ x => x.elim), hb, t.2.size, lt_of_block hb⟩)
  by_cases h0 : F = 0
  · have hb : ((F : Int) != 0) = false := by rw [h0]; rfl
    have hb2 : ((F : Int) == 0) = true := by rw [h0]; rfl
    have H0 := Lib.hid h0
    clear h0
    go_wp2_with (first
      | (go_at_call 18; ((with_reducible refine C1.out.mono ?_); rintro en w1 ⟨e, a, b, c, rfl, he, hi, hlow, ht⟩; have T1 := Lib.hid (And.intro he (And.intro hlow (And.intro ht hi))); clear he hi hlow ht))
      | (refine wpList_store_row rfl 27 _ _ rfl w1.heap.size (edCells e a b c).toArray rfl rfl 27 _ (ZB.out w1) (sz e a b c) rfl (ed_all e a b c) ?_; obtain ⟨w2, hw⟩ : ∃ w2, w2 = (w1.alloc (.cells #[.int .i64 0, .int .i64 0, .int .i64 0, .int .i64 0, .int .i64 0, .int .i64 0, .int .i64 0, .int .i64 0, .int .i64 0, .int .i64 0, .slice none 0 0, .slice none 0 0, .int .i64 0, .int .i64 0, .int .i64 0, .int .i64 0, .int .i64 0, .int .i64 0, .slice none 0 0] 27)).setRow w1.heap.size (edCells e a b c).toArray := ⟨_, rfl⟩; rw [← hw]; have S1 := Lib.hid (ST.out w1 w2 e a b c hw T1.out.2.2.1 T1.out.2.2.2); clear hw)
      | (go_at_call 19; ((with_reducible refine (C2.out _ S1.out.1).mono ?_); rintro en w3 ⟨rfl, k3⟩; have K3 := Lib.hid k3; have B3 := Lib.hid ((k3.block _ (lt_of_block S1.out.2.2.2.1) (by have h1 := S1.out.2.2.2.2.1; have h2 := HK.out.2; omega)).trans S1.out.2.2.2.1); have Z3 := Lib.hid ((((S1.out.2.2.1.trans k3 (fun _ _ x => x)).block w.heap.size (by have := HK.out.2; omega) (by omega))).trans BZ.out); clear k3))
      | (refine wpList_load_row rfl 27 _ rfl w1.heap.size rfl 27 (edCells e a b c).toArray (0, 0) _ B3.out Try.underlying27 rfl (sz e a b c) ?_)
      | (refine wpList_store_row rfl 27 _ _ rfl w.heap.size (edCells e a b c).toArray rfl rfl 27 _ Z3.out (sz e a b c) rfl (ed_all e a b c) ?_))
    refine bodyPost_ret (results_cell_row2 rfl _ _ w.heap.size 27 (edCells e a b c).toArray (0, 0) _ rfl (setRow_heap _ _ _ _ _ _ Z3.out) Try.underlying27 rfl (sz e a b c)) rfl ?_
    obtain ⟨r2, i2, k2, b2, l1, l2⟩ := S1.out
    obtain ⟨he, hlow, ht, hi⟩ := T1.out
    have hsu := HK.out.2
    have kz := keeps_row w3 w.heap.size (edCells e a b c).toArray
    have kall := (keep_low HK.out.1 (k2.trans K3.out (fun _ _ x => x)) (by omega)).trans kz (fun i hi x => by omega)
    have hF := HF.out
    rw [H0.out] at hF
    have lowb : ∀ x : Addr, (a.a = some x ∨ b.a = some x ∨ c.a = some x) → ¬ x.block = w.heap.size ∧ ¬ x.block = w.heap.size + 1 := fun x hx => by have := hlow x hx; constructor <;> omega
    refine ⟨e, a, b, c, by rw [← hF, H0.out]; rfl, ?_, fun x hx => by have := hlow x hx; omega, kall, ?_⟩
    · have i3 : EdIn w3 e a b c := ⟨i2.p.keep K3.out (fun x hx _ => (lowb x (Or.inl hx)).2), i2.s.keep K3.out (fun x hx _ => (lowb x (Or.inr (Or.inl hx))).2), i2.q.keep K3.out (fun x hx _ => (lowb x (Or.inr (Or.inr hx))).2)⟩
      exact ⟨i3.p.keep kz (fun x hx _ => (lowb x (Or.inl hx)).1), i3.s.keep kz (fun x hx _ => (lowb x (Or.inr (Or.inl hx))).1), i3.q.keep kz (fun x hx _ => (lowb x (Or.inr (Or.inr hx))).1)⟩
    · rw [← hF]
      exact ⟨fun _ => he, fun h => absurd rfl h⟩
  · have hb : ((F : Int) != 0) = true := by simp [h0]
    have hb2 : ((F : Int) == 0) = false := by simp [h0]
    have H0 := Lib.hid h0
    clear h0
    go_wp2_with (first
      | (go_at_call 18; ((with_reducible refine C1.out.mono ?_); rintro en w1 ⟨e, a, b, c, rfl, he, hi, hlow, ht⟩; have T1 := Lib.hid (And.intro he (And.intro hlow (And.intro ht hi))); clear he hi hlow ht))
      | (refine wpList_store_row rfl 27 _ _ rfl w1.heap.size (edCells e a b c).toArray rfl rfl 27 _ (ZB.out w1) (sz e a b c) rfl (ed_all e a b c) ?_; obtain ⟨w2, hw⟩ : ∃ w2, w2 = (w1.alloc (.cells #[.int .i64 0, .int .i64 0, .int .i64 0, .int .i64 0, .int .i64 0, .int .i64 0, .int .i64 0, .int .i64 0, .int .i64 0, .int .i64 0, .slice none 0 0, .slice none 0 0, .int .i64 0, .int .i64 0, .int .i64 0, .int .i64 0, .int .i64 0, .int .i64 0, .slice none 0 0] 27)).setRow w1.heap.size (edCells e a b c).toArray := ⟨_, rfl⟩; rw [← hw]; have S1 := Lib.hid (ST.out w1 w2 e a b c hw T1.out.2.2.1 T1.out.2.2.2); clear hw)
      | (go_at_call 19; ((with_reducible refine (C2.out _ S1.out.1).mono ?_); rintro en w3 ⟨rfl, k3⟩; have K3 := Lib.hid k3; have B3 := Lib.hid ((k3.block _ (lt_of_block S1.out.2.2.2.1) (by have h1 := S1.out.2.2.2.2.1; have h2 := HK.out.2; omega)).trans S1.out.2.2.2.1); have Z3 := Lib.hid ((((S1.out.2.2.1.trans k3 (fun _ _ x => x)).block w.heap.size (by have := HK.out.2; omega) (by omega))).trans BZ.out); clear k3))
      | (refine wpList_store_row rfl 27 _ _ rfl w.heap.size (edCells PEd.no Hd.nil Hd.nil Hd.nil).toArray rfl rfl 27 _ Z3.out (sz PEd.no Hd.nil Hd.nil Hd.nil) rfl (ed_all _ _ _ _) ?_))
    refine bodyPost_ret (results_cell_row2 rfl _ _ w.heap.size 27 (edCells PEd.no Hd.nil Hd.nil Hd.nil).toArray (0, 0) _ rfl (setRow_heap _ _ _ _ _ _ Z3.out) Try.underlying27 rfl (sz PEd.no Hd.nil Hd.nil Hd.nil)) rfl ?_
    obtain ⟨r2, i2, k2, b2, l1, l2⟩ := S1.out
    have hsu := HK.out.2
    have kz := keeps_row w3 w.heap.size (edCells PEd.no Hd.nil Hd.nil Hd.nil).toArray
    have kall := (keep_low HK.out.1 (k2.trans K3.out (fun _ _ x => x)) (by omega)).trans kz (fun i hi x => by omega)
    refine ⟨PEd.no, Hd.nil, Hd.nil, Hd.nil, by rw [← HF.out]; rfl, EdIn.no _, fun x hx => (by rcases hx with hx | hx | hx <;> cases hx), kall, ?_⟩
    rw [← HF.out]
    exact ⟨fun h => absurd h H0.out, fun _ => ⟨rfl, rfl, rfl, rfl⟩⟩
end Go.Proofs.Ytcdhpidglchinaa
