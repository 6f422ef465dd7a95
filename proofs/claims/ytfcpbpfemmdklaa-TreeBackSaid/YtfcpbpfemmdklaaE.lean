/- A layer where it stands (23), the home within it (64), a document's root (21). (printed by genTE.py) -/
import Derived.Test.YtfcpbpfemmdklaaD
namespace Go.Proofs.Ytfcpbpfemmdklaa
open Go.RowKit
set_option linter.unusedSimpArgs false
set_option linter.unusedVariables false

/-- Layers that stand in a home: the pointer to their header, the header, what they are. -/
structure Home (w : World) (kb ko : Nat) (h : Hd) (ls : List Loc) : Prop where
  ptr : w.cell? ⟨kb, ko, none⟩ = some (.slice h.a h.n h.c)
  row : ReadR w 48 19 h (flat ls)
  rep : Rep w ls
theorem Home.len {w : World} {kb ko : Nat} {h : Hd} {ls : List Loc} (H : Home w kb ko h ls) : h.n = ls.length := by
  have h1 := H.row.1.len
  rw [flat_length] at h1
  omega
theorem Home.later {w w' : World} {kb ko : Nat} {h : Hd} {ls : List Loc} (H : Home w kb ko h ls) (k : Keeps none' w w') : Home w' kb ko h ls :=
  ⟨k.cell H.ptr, H.row.keep k (fun _ _ h => h), H.rep.later k⟩
/-- Where the layers lie. -/
theorem Home.lies {w : World} {kb ko : Nat} {h : Hd} {ls : List Loc} (H : Home w kb ko h ls) (hn : 0 < ls.length) : ∃ b o, h.a = some ⟨b, o, none⟩ ∧ ∀ (i : Nat) (l : Loc), ls[i]? = some l → ∀ (j : Nat) (u : Value), l.cells[j]? = some u → w.cell? ⟨b, o + i * 19 + j, none⟩ = some u := by
  have hl := H.len
  cases hx : h.a with
  | none => have := (H.row.1.abs hx).1; omega
  | some x =>
    obtain ⟨h1, h2, h3⟩ := H.row.1.at' x hx
    obtain ⟨b, o, sp⟩ := x
    simp only at h1
    subst h1
    refine ⟨b, o, rfl, fun i l hli j u hj => ?_⟩
    have := h3 (i * 19 + j) u (flat_at ls i l hli j u hj)
    rw [show o + i * 19 + j = o + (i * 19 + j) by omega]
    exact this
/-- The kids of a layer that stands there. -/
theorem Home.kids {w : World} {kb ko : Nat} {h : Hd} {ls : List Loc} (H : Home w kb ko h ls) {b o : Nat} (hx : h.a = some ⟨b, o, none⟩) {i : Nat} {l : Loc} (hl : ls[i]? = some l) : Home w b (o + i * 19 + 18) l.kh l.kids := by
  have hn : 0 < ls.length := by have := (List.getElem?_eq_some_iff.1 hl).1; omega
  obtain ⟨b', o', e, hc⟩ := H.lies hn
  rw [hx] at e
  cases e
  have h1 := All.one H.rep hl
  obtain ⟨d, p, m, q, k, ks⟩ := l
  rw [All] at h1
  exact ⟨hc i _ hl 18 _ rfl, h1.2.2.2.1, h1.2.2.2.2.1⟩
/-- A spot in a block of its own. -/
def Sp (w : World) (S : Nat) (id : Int) (kb ko : Nat) (dep : Int) (i : Int) : Prop := w.heap[S]? = some (.cells #[.int .i64 id, .pointer (some ⟨kb, ko, none⟩), .int .i64 dep, .int .i64 i] 67 (0, 0))
theorem Sp.lt {w : World} {S : Nat} {id : Int} {kb ko : Nat} {dep i : Int} (h : Sp w S id kb ko dep i) : S < w.heap.size := lt_of_block h
theorem Sp.c0 {w : World} {S : Nat} {id : Int} {kb ko : Nat} {dep i : Int} (h : Sp w S id kb ko dep i) : w.cell? ⟨S, 0, none⟩ = some (.int .i64 id) := by simp [World.cell?, show w.heap[S]? = _ from h]
theorem Sp.c1 {w : World} {S : Nat} {id : Int} {kb ko : Nat} {dep i : Int} (h : Sp w S id kb ko dep i) : w.cell? ⟨S, 1, none⟩ = some (.pointer (some ⟨kb, ko, none⟩)) := by simp [World.cell?, show w.heap[S]? = _ from h]
theorem Sp.c2 {w : World} {S : Nat} {id : Int} {kb ko : Nat} {dep i : Int} (h : Sp w S id kb ko dep i) : w.cell? ⟨S, 2, none⟩ = some (.int .i64 dep) := by simp [World.cell?, show w.heap[S]? = _ from h]
theorem Sp.c3 {w : World} {S : Nat} {id : Int} {kb ko : Nat} {dep i : Int} (h : Sp w S id kb ko dep i) : w.cell? ⟨S, 3, none⟩ = some (.int .i64 i) := by simp [World.cell?, show w.heap[S]? = _ from h]
theorem Sp.fr {w : World} {S j : Nat} {id : Int} {kb ko : Nat} {dep i : Int} (h : Sp w S id kb ko dep i) : w.frozen? ⟨S, j, none⟩ = false := by simp [World.frozen?, show w.heap[S]? = _ from h]
theorem Sp.new (w : World) (id : Int) (kb ko : Nat) (dep i : Int) : Sp (w.alloc (.cells #[.int .i64 id, .pointer (some ⟨kb, ko, none⟩), .int .i64 dep, .int .i64 i] 67)) w.heap.size id kb ko dep i := heap_alloc_new _ _
theorem Sp.later {w w' : World} {S : Nat} {id : Int} {kb ko : Nat} {dep i : Int} (h : Sp w S id kb ko dep i) (k : Keeps none' w w') : Sp w' S id kb ko dep i := (k.later S h.lt).trans h
set_option maxRecDepth 100000 in
set_option maxHeartbeats 800000 in
theorem layer_any (id : Int) (kb ko : Nat) (dep : Int) (h : Hd) (ls : List Loc) (i : Nat) (l : Loc) (b o : Nat) (w : World) (H : Home w kb ko h ls) (hx : h.a = some ⟨b, o, none⟩) (hl : ls[i]? = some l) :
    Calls Try.prog 23 #[.agg #[.int .i64 id, .pointer (some ⟨kb, ko, none⟩), .int .i64 dep, .int .i64 (i : Int)]] w fun e w' => e = .returned (.pointer (some ⟨b, o + i * 19, none⟩)) ∧ Keeps none' w w' := by
  have hn := H.len
  have hi := (List.getElem?_eq_some_iff.1 hl).1
  have hb := H.row.2
  obtain ⟨a, n, c⟩ := h
  simp only at hn hb hx
  subst hx
  have S0 := Lib.hid (Sp.new w id kb ko dep i)
  have K0 := Lib.hid ((Keeps.refl none' w).alloc (.cells #[.int .i64 id, .pointer (some ⟨kb, ko, none⟩), .int .i64 dep, .int .i64 (i : Int)] 67))
  have hc := K0.out.cell H.ptr
  simp only at hc
  have hin : i < n := by omega
  have hii : (i : Int) < n := by omega
  have hi0 : (0 : Int) ≤ (i : Int) := by omega
  clear hn hi H hl
  go_enter Try.func23, Try.ntmps23
  go_upto_region 1 with (fail)
  generalize w.alloc (.cells #[.int .i64 id, .pointer (some ⟨kb, ko, none⟩), .int .i64 dep, .int .i64 (i : Int)] 67) = w1 at *
  generalize w.heap.size = S at *
  have s1 := S0.out.c1
  have s3 := S0.out.c3
  go_quiet (fail)
  go_wp2_with fail
  go_ret
  exact ⟨rfl, K0.out.drewN _⟩
/-- A home in a block of its own. -/
def Hm (w : World) (R : Nat) (id : Int) (kb ko : Nat) (dep : Int) : Prop := w.heap[R]? = some (.cells #[.int .i64 id, .pointer (some ⟨kb, ko, none⟩), .int .i64 dep] 65 (0, 0))
theorem Hm.lt {w : World} {R : Nat} {id : Int} {kb ko : Nat} {dep : Int} (h : Hm w R id kb ko dep) : R < w.heap.size := lt_of_block h
theorem Hm.c0 {w : World} {R : Nat} {id : Int} {kb ko : Nat} {dep : Int} (h : Hm w R id kb ko dep) : w.cell? ⟨R, 0, none⟩ = some (.int .i64 id) := by simp [World.cell?, show w.heap[R]? = _ from h]
theorem Hm.c1 {w : World} {R : Nat} {id : Int} {kb ko : Nat} {dep : Int} (h : Hm w R id kb ko dep) : w.cell? ⟨R, 1, none⟩ = some (.pointer (some ⟨kb, ko, none⟩)) := by simp [World.cell?, show w.heap[R]? = _ from h]
theorem Hm.c2 {w : World} {R : Nat} {id : Int} {kb ko : Nat} {dep : Int} (h : Hm w R id kb ko dep) : w.cell? ⟨R, 2, none⟩ = some (.int .i64 dep) := by simp [World.cell?, show w.heap[R]? = _ from h]
theorem Hm.fr {w : World} {R j : Nat} {id : Int} {kb ko : Nat} {dep : Int} (h : Hm w R id kb ko dep) : w.frozen? ⟨R, j, none⟩ = false := by simp [World.frozen?, show w.heap[R]? = _ from h]
theorem Hm.new (w : World) (id : Int) (kb ko : Nat) (dep : Int) : Hm (w.alloc (.cells #[.int .i64 id, .pointer (some ⟨kb, ko, none⟩), .int .i64 dep] 65)) w.heap.size id kb ko dep := heap_alloc_new _ _
theorem Hm.later {w w' : World} {R : Nat} {id : Int} {kb ko : Nat} {dep : Int} (h : Hm w R id kb ko dep) (k : Keeps none' w w') : Hm w' R id kb ko dep := (k.later R h.lt).trans h
theorem Hm.set3 {w : World} {R : Nat} {x y z : Value} (h : w.heap[R]? = some (.cells #[x, y, z] 65 (0, 0))) (id : Int) (kb ko : Nat) (dep : Int) :
    Hm (((w.setCell ⟨R, 0, none⟩ (.int .i64 id)).setCell ⟨R, 1, none⟩ (.pointer (some ⟨kb, ko, none⟩))).setCell ⟨R, 2, none⟩ (.int .i64 dep)) R id kb ko dep := by
  have h0 := block_set (i := 0) h (.int .i64 id)
  have h1 := block_set (i := 1) h0 (.pointer (some ⟨kb, ko, none⟩))
  have h2 := block_set (i := 2) h1 (.int .i64 dep)
  exact h2
set_option maxRecDepth 100000 in
set_option maxHeartbeats 800000 in
theorem within_any (id : Int) (kb ko dep : Nat) (h : Hd) (ls : List Loc) (i : Nat) (l : Loc) (b o : Nat) (w : World) (H : Home w kb ko h ls) (hx : h.a = some ⟨b, o, none⟩) (hl : ls[i]? = some l) (hd : dep ≤ 1099511627776) :
    Calls Try.prog 64 #[.agg #[.int .i64 id, .pointer (some ⟨kb, ko, none⟩), .int .i64 (dep : Int), .int .i64 (i : Int)]] w fun e w' => e = .returned (.agg #[.int .i64 l.dat.id, .pointer (some ⟨b, o + i * 19 + 18, none⟩), .int .i64 ((dep + 1 : Nat) : Int)]) ∧ Keeps none' w w' := by
  have S0 := Lib.hid ((Sp.new w id kb ko dep i).later ((Keeps.refl none' _).alloc (.cells #[.int .i64 0, .pointer none, .int .i64 0] 65)))
  have R0 := Lib.hid (heap_alloc_new (w.alloc (.cells #[.int .i64 id, .pointer (some ⟨kb, ko, none⟩), .int .i64 (dep : Int), .int .i64 (i : Int)] 67)) (.cells #[.int .i64 0, .pointer none, .int .i64 0] 65))
  have K0 := Lib.hid (((Keeps.refl none' w).alloc (.cells #[.int .i64 id, .pointer (some ⟨kb, ko, none⟩), .int .i64 (dep : Int), .int .i64 (i : Int)] 67)).alloc (.cells #[.int .i64 0, .pointer none, .int .i64 0] 65))
  have hs : (w.alloc (.cells #[.int .i64 id, .pointer (some ⟨kb, ko, none⟩), .int .i64 (dep : Int), .int .i64 (i : Int)] 67)).heap.size = w.heap.size + 1 := by simp
  rw [hs] at R0
  have LA := Lib.hid (fun w' (k : Keeps none' w w') => layer_any id kb ko dep h ls i l b o w' (H.later k) hx hl)
  have hn : 0 < ls.length := by have := (List.getElem?_eq_some_iff.1 hl).1; omega
  obtain ⟨b', o', e, hc⟩ := H.lies hn
  rw [hx] at e
  cases e
  have HC := Lib.hid (show w.cell? ⟨b, o + i * 19, none⟩ = some (.int .i64 l.dat.id) from hc i l hl 0 _ (by cases l; rfl))
  clear hs hc H hx hl hn
  go_enter Try.func64, Try.ntmps64
  go_upto_region 1 with (fail)
  generalize (w.alloc (.cells #[.int .i64 id, .pointer (some ⟨kb, ko, none⟩), .int .i64 (dep : Int), .int .i64 (i : Int)] 67)).alloc (.cells #[.int .i64 0, .pointer none, .int .i64 0] 65) = w1 at *
  obtain ⟨R, hR⟩ : ∃ R, R = w.heap.size + 1 := ⟨_, rfl⟩
  have RB := Lib.hid (show w.heap.size ≤ R from by omega)
  rw [← hR] at R0
  rw [← hR]
  clear hR
  obtain ⟨S, hS⟩ : ∃ S, S = w.heap.size := ⟨_, rfl⟩
  rw [← hS] at S0
  rw [← hS]
  clear hS
  have s0 := S0.out.c0
  have s1 := S0.out.c1
  have s2 := S0.out.c2
  have s3 := S0.out.c3
  go_wp2_with fail
  refine (LA.out _ K0.out).mono ?_
  rintro e w2 ⟨rfl, hk⟩
  have K2 := Lib.hid (K0.out.next hk)
  have S2 := Lib.hid (S0.out.later hk)
  have R2 := Lib.hid ((hk.later R (lt_of_block R0.out)).trans R0.out)
  clear s0 s1 s2 s3 S0 K0 R0 hk LA
  go_upto_region 2 with (fail)
  have e0 := K2.out.cell HC.out
  have s2 := S2.out.c2
  have wd : IntKind.i64.wrap ((dep : Int) + 1) = ((dep + 1 : Nat) : Int) := by rw [wrap_i64 _ (by omega) (by omega)]; push_cast; rfl
  have r0 : w2.cell? ⟨R, 0, none⟩ = some (.int .i64 0) := by simp [World.cell?, R2.out]
  have r1 : w2.cell? ⟨R, 1, none⟩ = some (.pointer none) := by simp [World.cell?, R2.out]
  have r2 : w2.cell? ⟨R, 2, none⟩ = some (.int .i64 0) := by simp [World.cell?, R2.out]
  have f0 : ∀ j, w2.frozen? ⟨R, j, none⟩ = false := fun j => by simp [World.frozen?, R2.out]
  have f1 := f0 0
  have f2 := f0 1
  have f3 := f0 2
  go_still_tail 12, (by kernel_rfl)
  repeat still_step
  try refine wpStill_nil ?_
  try (change wpList _ _ _ _ _ w2.drew)
  go_wp2_with fail
  refine bodyPost_ret (results_cell_row rfl _ _ R 65 #[.int .i64 l.dat.id, .pointer (some ⟨b, o + i * 19 + 18, none⟩), .int .i64 ((dep + 1 : Nat) : Int)] (0, 0) _ rfl (Hm.set3 (w := w2.drew) R2.out _ _ _ _) Try.underlying65 rfl (by kernel_rfl)) rfl ?_
  exact ⟨rfl, (((K2.out.drew).setCell (fun e => by have e' : R < w.heap.size := e; have := RB.out; omega) _).setCell (fun e => by have e' : R < w.heap.size := e; have := RB.out; omega) _).setCell (fun e => by have e' : R < w.heap.size := e; have := RB.out; omega) _⟩
end Go.Proofs.Ytfcpbpfemmdklaa
