/- PutEdit. -/
import Derived.Test.YtcdhpidglchinaaE
namespace Go.Proofs.Ytcdhpidglchinaa
open Go.RowKit Go.Lib Pk
set_option linter.unusedSimpArgs false
set_option linter.unusedVariables false

/-- Bytes that a call tells, in memory of its own. -/
def ToldB (w : World) (zs : List Nat) (en : Ending) (w' : World) : Prop :=
  ∃ hd : Hd, en = .returned (.slice hd.a hd.n hd.c) ∧ zs.length = hd.n ∧ w'.ownsRow w.heap.size 5 1 (.slice hd.a hd.n hd.c) hd.n (bys zs) ∧ Keeps none' w w'
theorem hd_eta (h : Hd) : (⟨h.a, h.n, h.c⟩ : Hd) = h := rfl
theorem own_cells2 {w : World} {N e k : Nat} {hd : Hd} {vs : List Value} (h : w.ownsRow N e k (.slice hd.a hd.n hd.c) hd.n vs) (h1 : ∀ u ∈ vs, u.oneCell' = true) : Cells k w hd vs ∧ ∀ x, hd.a = some x → N ≤ x.block ∧ x.off = 0 := by
  obtain ⟨g, e, hn, c, o⟩ := own_cells h h1
  cases g
  cases hd
  simp only [Value.slice.injEq] at e
  obtain ⟨rfl, rfl, rfl⟩ := e
  exact ⟨c, o⟩
theorem sizeEd : (Try.prog.info? 27).map (·.size) = some 19 := by kernel_rfl
theorem szEd (e : PEd) (p s q : Hd) : (Try.prog.info? 27).map (·.size) = some (edCells e p s q).toArray.size := sizeEd
def Zw : Obj := .cells #[.slice none 0 0] 51
set_option maxRecDepth 100000 in
set_option maxHeartbeats 800000 in
theorem PutEdit_any (w : World) (e : PEd) (p s q : Hd) (hi : EdIn w e p s q) (ok : EdOk e.ed) (hl : e.p.length + e.s.length + e.q.length ≤ 10000) :
    Calls Try.prog 8 #[edV e p s q] w (ToldB w (putE e.ed)) := by
  obtain ⟨EV, hEV⟩ : ∃ EV, EV = (edCells e p s q).toArray := ⟨_, rfl⟩
  obtain ⟨u, hu⟩ : ∃ u, u = (w.alloc (.cells EV 27)).alloc Zw := ⟨_, rfl⟩
  have K0 : Keeps none' w u := by rw [hu]; exact ((Keeps.refl none' w).alloc _).alloc _
  have hsz : u.heap.size = w.heap.size + 2 := by rw [hu]; simp
  have hP : u.heap[w.heap.size + 1]? = some (.cells #[.slice none 0 0] 51 (0, 0)) := by
    have := heap_alloc_new (w.alloc (.cells EV 27)) Zw
    rw [hu]
    simpa [Zw] using this
  have hE : u.heap[w.heap.size]? = some (.cells EV 27 (0, 0)) := by
    rw [hu]
    exact (Below.heap_alloc (w.alloc (.cells EV 27)) _ _ (by simp)).trans (heap_alloc_new w _)
  have Wu : Wt u w.heap.size (w.heap.size + 1) none [] := ⟨none, 0, 0, rfl, hP, ⟨rfl, .inl ⟨rfl, rfl⟩⟩, rfl, by simp⟩
  have C := Lib.hid (wedit_any u w.heap.size (w.heap.size + 1) none e p s q Wu (by omega) (Off.old hi.p K0 (by omega) (fun d h => by cases h)) (Off.old hi.s K0 (by omega) (fun d h => by cases h)) (Off.old hi.q K0 (by omega) (fun d h => by cases h)) ok hl)
  have SZ : (Try.prog.info? 27).map (·.size) = some EV.size := by rw [hEV]; exact sizeEd
  have HE := Lib.hid hE
  have KK := Lib.hid K0
  unfold edV at C ⊢
  rw [← hEV] at C
  rw [← hEV]
  have HU := Lib.hid hu
  clear hE hP hsz K0 Wu hi ok hl hEV
  unfold Zw at hu
  go_enter Try.func8, Try.ntmps8
  go_upto_region 2 with (fail)
  rw [← hu]
  clear hu
  go_wp2_with (first
    | (refine wpList_load_row rfl 27 _ rfl w.heap.size rfl 27 EV (0, 0) _ HE.out Try.underlying27 rfl SZ ?_)
    | (go_at_call 17; ((with_reducible refine C.out.mono ?_); rintro en w1 ⟨rfl, t1⟩; have T1 := Lib.hid t1; obtain ⟨D1, ⟨a, n, c, hn, hP1, ho, _, _⟩, _, _⟩ := t1; have hc1 := cell_at (i := 0) hP1 rfl; have HO := Lib.hid (And.intro hn ho); clear hn hP1 ho)))
  go_ret
  obtain ⟨hn, ho⟩ := HO.out
  refine ⟨⟨a, n, c⟩, rfl, hn, ho, KK.out.trans (c := w1) (S1 := fun k => k = w.heap.size + 1 ∨ some k = none) ?_ (fun i hi h => by rcases h with h | h; omega; cases h)⟩
  obtain ⟨_, _, b, _⟩ := T1.out
  exact b
end Go.Proofs.Ytcdhpidglchinaa
