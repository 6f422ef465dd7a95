/- An edit in memory; an edit written (writer.edit, PutEdit). -/
import Derived.Test.YtcdhpidglchinaaD
namespace Go.Proofs.Ytcdhpidglchinaa
open Go.RowKit Go.Lib Pk
set_option linter.unusedSimpArgs false
set_option linter.unusedVariables false

/-- An edit. -/
structure PEd where
  kind : Int
  id : Int
  to_ : Int
  at_ : Int
  n : Int
  m : Int
  x : Int
  y : Int
  w : Int
  h : Int
  p : List Int
  s : List (Int × Int)
  ma : Int
  mb : Int
  mc : Int
  md : Int
  me : Int
  mf : Int
  q : List Int
def PEd.ten (e : PEd) : List Int := [e.kind, e.id, e.to_, e.at_, e.n, e.m, e.x, e.y, e.w, e.h]
def PEd.six (e : PEd) : List Int := [e.ma, e.mb, e.mc, e.md, e.me, e.mf]
/-- As plain data. -/
def PEd.ed (e : PEd) : Ed := (e.ten, e.p, e.s, e.six, e.q)
def edCells (e : PEd) (p s q : Hd) : List Value := [.int .i64 e.kind, .int .i64 e.id, .int .i64 e.to_, .int .i64 e.at_, .int .i64 e.n, .int .i64 e.m, .int .i64 e.x, .int .i64 e.y, .int .i64 e.w, .int .i64 e.h, .slice p.a p.n p.c, .slice s.a s.n s.c, .int .i64 e.ma, .int .i64 e.mb, .int .i64 e.mc, .int .i64 e.md, .int .i64 e.me, .int .i64 e.mf, .slice q.a q.n q.c]
def edV (e : PEd) (p s q : Hd) : Value := .agg (edCells e p s q).toArray
/-- An edit in a block of its own. -/
def Eb (w : World) (T : TypeId) (E : Nat) (e : PEd) (p s q : Hd) : Prop := w.heap[E]? = some (.cells (edCells e p s q).toArray T (0, 0))
theorem Eb.lt {w : World} {T : TypeId} {E : Nat} {e : PEd} {p s q : Hd} (h : Eb w T E e p s q) : E < w.heap.size := lt_of_block h
theorem Eb.keep {X : Nat → Prop} {w w' : World} {T : TypeId} {E : Nat} {e : PEd} {p s q : Hd} (h : Eb w T E e p s q) (k : Keeps X w w') (hX : ¬ X E) : Eb w' T E e p s q := (k.block E h.lt hX).trans h
theorem Eb.new (w : World) (T : TypeId) (e : PEd) (p s q : Hd) : Eb (w.alloc (.cells (edCells e p s q).toArray T)) T w.heap.size e p s q := heap_alloc_new _ _
theorem Eb.c0 {w : World} {T : TypeId} {E : Nat} {e : PEd} {p s q : Hd} (h : Eb w T E e p s q) : w.cell? ⟨E, 0, none⟩ = some (.int .i64 e.kind) := cell_at h rfl
theorem Eb.c1 {w : World} {T : TypeId} {E : Nat} {e : PEd} {p s q : Hd} (h : Eb w T E e p s q) : w.cell? ⟨E, 1, none⟩ = some (.int .i64 e.id) := cell_at h rfl
theorem Eb.c2 {w : World} {T : TypeId} {E : Nat} {e : PEd} {p s q : Hd} (h : Eb w T E e p s q) : w.cell? ⟨E, 2, none⟩ = some (.int .i64 e.to_) := cell_at h rfl
theorem Eb.c3 {w : World} {T : TypeId} {E : Nat} {e : PEd} {p s q : Hd} (h : Eb w T E e p s q) : w.cell? ⟨E, 3, none⟩ = some (.int .i64 e.at_) := cell_at h rfl
theorem Eb.c4 {w : World} {T : TypeId} {E : Nat} {e : PEd} {p s q : Hd} (h : Eb w T E e p s q) : w.cell? ⟨E, 4, none⟩ = some (.int .i64 e.n) := cell_at h rfl
theorem Eb.c5 {w : World} {T : TypeId} {E : Nat} {e : PEd} {p s q : Hd} (h : Eb w T E e p s q) : w.cell? ⟨E, 5, none⟩ = some (.int .i64 e.m) := cell_at h rfl
theorem Eb.c6 {w : World} {T : TypeId} {E : Nat} {e : PEd} {p s q : Hd} (h : Eb w T E e p s q) : w.cell? ⟨E, 6, none⟩ = some (.int .i64 e.x) := cell_at h rfl
theorem Eb.c7 {w : World} {T : TypeId} {E : Nat} {e : PEd} {p s q : Hd} (h : Eb w T E e p s q) : w.cell? ⟨E, 7, none⟩ = some (.int .i64 e.y) := cell_at h rfl
theorem Eb.c8 {w : World} {T : TypeId} {E : Nat} {e : PEd} {p s q : Hd} (h : Eb w T E e p s q) : w.cell? ⟨E, 8, none⟩ = some (.int .i64 e.w) := cell_at h rfl
theorem Eb.c9 {w : World} {T : TypeId} {E : Nat} {e : PEd} {p s q : Hd} (h : Eb w T E e p s q) : w.cell? ⟨E, 9, none⟩ = some (.int .i64 e.h) := cell_at h rfl
theorem Eb.c10 {w : World} {T : TypeId} {E : Nat} {e : PEd} {p s q : Hd} (h : Eb w T E e p s q) : w.cell? ⟨E, 10, none⟩ = some (.slice p.a p.n p.c) := cell_at h rfl
theorem Eb.c11 {w : World} {T : TypeId} {E : Nat} {e : PEd} {p s q : Hd} (h : Eb w T E e p s q) : w.cell? ⟨E, 11, none⟩ = some (.slice s.a s.n s.c) := cell_at h rfl
theorem Eb.c12 {w : World} {T : TypeId} {E : Nat} {e : PEd} {p s q : Hd} (h : Eb w T E e p s q) : w.cell? ⟨E, 12, none⟩ = some (.int .i64 e.ma) := cell_at h rfl
theorem Eb.c13 {w : World} {T : TypeId} {E : Nat} {e : PEd} {p s q : Hd} (h : Eb w T E e p s q) : w.cell? ⟨E, 13, none⟩ = some (.int .i64 e.mb) := cell_at h rfl
theorem Eb.c14 {w : World} {T : TypeId} {E : Nat} {e : PEd} {p s q : Hd} (h : Eb w T E e p s q) : w.cell? ⟨E, 14, none⟩ = some (.int .i64 e.mc) := cell_at h rfl
theorem Eb.c15 {w : World} {T : TypeId} {E : Nat} {e : PEd} {p s q : Hd} (h : Eb w T E e p s q) : w.cell? ⟨E, 15, none⟩ = some (.int .i64 e.md) := cell_at h rfl
theorem Eb.c16 {w : World} {T : TypeId} {E : Nat} {e : PEd} {p s q : Hd} (h : Eb w T E e p s q) : w.cell? ⟨E, 16, none⟩ = some (.int .i64 e.me) := cell_at h rfl
theorem Eb.c17 {w : World} {T : TypeId} {E : Nat} {e : PEd} {p s q : Hd} (h : Eb w T E e p s q) : w.cell? ⟨E, 17, none⟩ = some (.int .i64 e.mf) := cell_at h rfl
theorem Eb.c18 {w : World} {T : TypeId} {E : Nat} {e : PEd} {p s q : Hd} (h : Eb w T E e p s q) : w.cell? ⟨E, 18, none⟩ = some (.slice q.a q.n q.c) := cell_at h rfl
/-- What may be written: all numbers are of 64 bits, and the lists are no longer than they may be. -/
structure EdIn (w : World) (e : PEd) (p s q : Hd) : Prop where
  p : Cells 1 w p (ints e.p)
  s : Cells 2 w s (pts e.s)
  q : Cells 1 w q (ints e.q)
theorem EdIn.keep {X : Nat → Prop} {w w' : World} {e : PEd} {p s q : Hd} (h : EdIn w e p s q) (k : Keeps X w w') (hX : ∀ i, i < w.heap.size → ¬ X i) : EdIn w' e p s q :=
  ⟨h.p.keep k (fun x hx hp => hX _ (h.p.at' x hx hp).2.1), h.s.keep k (fun x hx hp => hX _ (h.s.at' x hx hp).2.1), h.q.keep k (fun x hx hp => hX _ (h.q.at' x hx hp).2.1)⟩
/-- A row that was there ahead of a writer and its row. -/
theorem Off.old {k P : Nat} {D : Option Nat} {w W : World} {h : Hd} {vs : List Value} (c : Cells k w h vs) (kk : Keeps none' w W) (hP : w.heap.size ≤ P) (hD : ∀ d, D = some d → w.heap.size ≤ d) : Off k P D W h vs :=
  ⟨c.later kk, fun x hx hp => by have := (c.at' x hx hp).2.1; omega, fun x hx hp e => by have := (c.at' x hx hp).2.1; have := hD _ e.symm; omega⟩
theorem Eb.then {w w' : World} {T : TypeId} {E B P : Nat} {D : Option Nat} {e : PEd} {p s q : Hd} {zs : List Nat} (h : Eb w T E e p s q) (hP : E ≠ P) (hD : some E ≠ D) (t : Then w B P D zs w') : Eb w' T E e p s q := by
  obtain ⟨_, _, b, _⟩ := t
  exact h.keep b (by rintro (x | x); exact hP x; exact hD x)
theorem Eb.six {w : World} {T : TypeId} {E : Nat} {e : PEd} {p s q : Hd} (h : Eb w T E e p s q) : Cells 1 w ⟨some ⟨E, 12, none⟩, 6, 6⟩ (ints e.six) := by
  refine ⟨rfl, Nat.le_refl _, fun x => (by cases x), ints_one _, fun x hx _ => ?_⟩
  cases hx
  refine ⟨rfl, h.lt, fun j u hj => ?_⟩
  match j, hj with
  | 0, hj => cases hj; exact h.c12
  | 1, hj => cases hj; exact h.c13
  | 2, hj => cases hj; exact h.c14
  | 3, hj => cases hj; exact h.c15
  | 4, hj => cases hj; exact h.c16
  | 5, hj => cases hj; exact h.c17
  | j + 6, hj => simp [ints, PEd.six] at hj
theorem putL_short {l : List Int} (hf : ∀ a ∈ l, Fit a) (hl : l.length ≤ 10000) : (putL put l).length ≤ 10 + 10 * l.length := by
  unfold putL
  have h1 := put_short (n := (l.length : Int)) ⟨by omega, by omega⟩
  have h2 := flat_short hf
  rw [List.length_append]
  omega
theorem putLP_short {l : List (Int × Int)} (hf : ∀ a ∈ l, Fit a.1 ∧ Fit a.2) (hl : l.length ≤ 10000) : (putL putPt l).length ≤ 10 + 20 * l.length := by
  unfold putL
  have h1 := put_short (n := (l.length : Int)) ⟨by omega, by omega⟩
  have h2 := flatP_short hf
  rw [List.length_append]
  omega
theorem Off.from {k P : Nat} {D : Option Nat} {w W : World} {h : Hd} {vs : List Value} (o : Off k P D w h vs) (kk : Keeps none' w W) : Off k P D W h vs := ⟨o.cells.later kk, o.p, o.d⟩
set_option maxRecDepth 100000 in
set_option maxHeartbeats 800000 in
theorem wedit_any (w : World) (B P : Nat) (D : Option Nat) (e : PEd) (p s q : Hd) (h : Wt w B P D []) (hB : B ≤ w.heap.size) (op : Off 1 P D w p (ints e.p)) (os : Off 2 P D w s (pts e.s)) (oq : Off 1 P D w q (ints e.q)) (ok : EdOk e.ed) (hl : e.p.length + e.s.length + e.q.length ≤ 10000) :
    Calls Try.prog 17 #[.pointer (some ⟨P, 0, none⟩), edV e p s q] w fun en w' => en = .returned (.tuple #[]) ∧ Then w B P D (putE e.ed) w' := by
  obtain ⟨u, hu⟩ : ∃ u, u = w.alloc (.cells (edCells e p s q).toArray 27) := ⟨_, rfl⟩
  have K0 : Keeps none' w u := by rw [hu]; exact (Keeps.refl none' w).alloc _
  have Wu := h.keep K0
  have Eu : Eb u 27 w.heap.size e p s q := by rw [hu]; exact Eb.new w _ e p s q
  have hsz : u.heap.size = w.heap.size + 1 := by rw [hu]; simp
  have hP : w.heap.size ≠ P := by have := h.lt; omega
  have hD : some w.heap.size ≠ D := by intro x; have := h.row _ x.symm; omega
  have pu := op.from K0
  have su := os.from K0
  have qu := oq.from K0
  have hBu : B ≤ u.heap.size := by omega
  obtain ⟨ok10, okp, oks, ok6, okq⟩ := ok
  simp only [PEd.ed] at ok10 okp oks ok6 okq
  have l1 : (e.ten.flatMap put).length ≤ 100 := by have := flat_short ok10.1; rw [ok10.2] at this; omega
  have l2 := putL_short okp.1 (by omega)
  have l3 := putLP_short oks.1 (by omega)
  have l4 : (e.six.flatMap put).length ≤ 60 := by have := flat_short ok6.1; rw [ok6.2] at this; omega
  have ot : Off 1 P D (u.alloc (.cells (ints e.ten).toArray 3)) ⟨some ⟨w.heap.size + 1, 0, none⟩, 10, 10⟩ (ints e.ten) := by
    refine ⟨by rw [← hsz]; exact cells_new 1 u _ 3 10 10 _ rfl (by rw [ints_length]; exact ok10.2) (Nat.le_refl _) (ints_one _), ?_, ?_⟩
    · intro x hx _
      cases hx
      have := h.lt
      show w.heap.size + 1 ≠ P
      omega
    · intro x hx _
      cases hx
      intro y
      have := h.row _ y.symm
      simp only at this
      omega
  have C1 := Lib.hid (show Calls Try.prog 27 #[.pointer (some ⟨P, 0, none⟩), .slice (some ⟨w.heap.size + 1, 0, none⟩) 10 10] (u.alloc (.cells (ints e.ten).toArray 3)) (fun en w' => en = .returned (.tuple #[]) ∧ Then u B P D ([] ++ e.ten.flatMap put) w') from
    (wnums_any (u.alloc (.cells (ints e.ten).toArray 3)) B P D [] ⟨some ⟨w.heap.size + 1, 0, none⟩, 10, 10⟩ e.ten (Wu.keep ((Keeps.refl none' u).alloc _)) (by simp; omega) ot ok10.1 (by rw [ok10.2]; simp)).mono (fun en w' ⟨a, b⟩ => ⟨a, Then.from ((Keeps.refl none' u).alloc _) b⟩))
  have C2 := Lib.hid (fun (w1 : World) (t : Then u B P D ([] ++ e.ten.flatMap put) w1) => show Calls Try.prog 28 #[.pointer (some ⟨P, 0, none⟩), .slice p.a p.n p.c] w1 (fun en w' => en = .returned (.tuple #[]) ∧ Then u B P D (([] ++ e.ten.flatMap put) ++ putL put e.p) w') from by
    obtain ⟨D1, hw, hk, hd⟩ := id t
    refine (wrow_any w1 B P D1 _ p e.p hw (Nat.le_trans hBu t.size) (pu.more t hw) okp.1 (by simp at l1 ⊢; omega)).mono (fun en w' ⟨a, b⟩ => ⟨a, t.trans (fun D2 h2 => by obtain rfl := h2.one hw; exact b)⟩))
  have C3 := Lib.hid (fun (w1 : World) (t : Then u B P D (([] ++ e.ten.flatMap put) ++ putL put e.p) w1) => show Calls Try.prog 29 #[.pointer (some ⟨P, 0, none⟩), .slice s.a s.n s.c, .func (.func 30) #[.pointer (some ⟨P, 0, none⟩)] #[]] w1 (fun en w' => en = .returned (.tuple #[]) ∧ Then u B P D ((([] ++ e.ten.flatMap put) ++ putL put e.p) ++ putL putPt e.s) w') from by
    obtain ⟨D1, hw, hk, hd⟩ := id t
    refine (putPts_any w1 B P D1 _ s e.s hw (Nat.le_trans hBu t.size) (su.more t hw) oks.1 (by rw [List.nil_append, List.length_append]; omega)).mono (fun en w' ⟨a, b⟩ => ⟨a, t.trans (fun D2 h2 => by obtain rfl := h2.one hw; exact b)⟩))
  have C4 := Lib.hid (fun (w1 : World) (t : Then u B P D ((([] ++ e.ten.flatMap put) ++ putL put e.p) ++ putL putPt e.s) w1) => show Calls Try.prog 27 #[.pointer (some ⟨P, 0, none⟩), .slice (some ⟨w.heap.size, 12, none⟩) 6 6] w1 (fun en w' => en = .returned (.tuple #[]) ∧ Then u B P D (((([] ++ e.ten.flatMap put) ++ putL put e.p) ++ putL putPt e.s) ++ e.six.flatMap put) w') from by
    obtain ⟨D1, hw, hk, hd⟩ := id t
    have of : Off 1 P D u ⟨some ⟨w.heap.size, 12, none⟩, 6, 6⟩ (ints e.six) := ⟨Eu.six, by intro x hx _; cases hx; exact hP, by intro x hx _; cases hx; exact hD⟩
    refine (wnums_any w1 B P D1 _ ⟨some ⟨w.heap.size, 12, none⟩, 6, 6⟩ e.six hw (Nat.le_trans hBu t.size) (of.more t hw) ok6.1 (by rw [List.nil_append, List.length_append, List.length_append, ok6.2]; omega)).mono (fun en w' ⟨a, b⟩ => ⟨a, t.trans (fun D2 h2 => by obtain rfl := h2.one hw; exact b)⟩))
  have C5 := Lib.hid (fun (w1 : World) (t : Then u B P D (((([] ++ e.ten.flatMap put) ++ putL put e.p) ++ putL putPt e.s) ++ e.six.flatMap put) w1) => show Calls Try.prog 28 #[.pointer (some ⟨P, 0, none⟩), .slice q.a q.n q.c] w1 (fun en w' => en = .returned (.tuple #[]) ∧ Then u B P D ((((([] ++ e.ten.flatMap put) ++ putL put e.p) ++ putL putPt e.s) ++ e.six.flatMap put) ++ putL put e.q) w') from by
    obtain ⟨D1, hw, hk, hd⟩ := id t
    refine (wrow_any w1 B P D1 _ q e.q hw (Nat.le_trans hBu t.size) (qu.more t hw) okq.1 (by rw [List.nil_append, List.length_append, List.length_append, List.length_append]; omega)).mono (fun en w' ⟨a, b⟩ => ⟨a, t.trans (fun D2 h2 => by obtain rfl := h2.one hw; exact b)⟩))
  have EE := Lib.hid (fun (zs : List Nat) (w1 : World) (t : Then u B P D zs w1) => Eu.then hP hD t)
  have KK := Lib.hid K0
  have hw2 : u.alloc (.cells (ints e.ten).toArray 3) = (w.alloc (.cells #[.int .i64 e.kind, .int .i64 e.id, .int .i64 e.to_, .int .i64 e.at_, .int .i64 e.n, .int .i64 e.m, .int .i64 e.x, .int .i64 e.y, .int .i64 e.w, .int .i64 e.h, .slice p.a p.n p.c, .slice s.a s.n s.c, .int .i64 e.ma, .int .i64 e.mb, .int .i64 e.mc, .int .i64 e.md, .int .i64 e.me, .int .i64 e.mf, .slice q.a q.n q.c] 27)).alloc (.cells #[.int .i64 e.kind, .int .i64 e.id, .int .i64 e.to_, .int .i64 e.at_, .int .i64 e.n, .int .i64 e.m, .int .i64 e.x, .int .i64 e.y, .int .i64 e.w, .int .i64 e.h] 3) := by rw [hu]; rfl
  rw [hw2] at C1
  have HU := Lib.hid hu
  clear ot h hB op os oq hl ok10 okp oks ok6 okq l1 l2 l3 l4 pu su qu hBu hP hD hsz Wu Eu K0 hu hw2
  unfold edV edCells
  go_enter Try.func17, Try.ntmps17
  go_wp2_with (first
    | (go_at_call 27; ((with_reducible refine C1.out.mono ?_); rintro en w1 ⟨rfl, t1⟩; have T1 := Lib.hid t1; have c10 := (EE.out _ _ t1).c10; clear t1))
    | (go_at_call 28; ((with_reducible refine (C2.out _ T1.out).mono ?_); rintro en w2 ⟨rfl, t2⟩; have T2 := Lib.hid t2; have c11 := (EE.out _ _ t2).c11; clear t2))
    | (go_at_call 29; ((with_reducible refine (C3.out _ T2.out).mono ?_); rintro en w3 ⟨rfl, t3⟩; have T3 := Lib.hid t3; clear t3))
    | (go_at_call 27; ((with_reducible refine (C4.out _ T3.out).mono ?_); rintro en w4 ⟨rfl, t4⟩; have T4 := Lib.hid t4; have c18 := (EE.out _ _ t4).c18; clear t4))
    | (go_at_call 28; ((with_reducible refine (C5.out _ T4.out).mono ?_); rintro en w5 ⟨rfl, t5⟩; have T5 := Lib.hid t5; clear t5)))
  go_end0
  refine ⟨rfl, ?_⟩
  have := Then.from KK.out T5.out
  simp only [List.nil_append, List.append_assoc] at this
  exact this
end Go.Proofs.Ytcdhpidglchinaa
