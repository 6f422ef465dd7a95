/- Layers as they lie in memory. (printed by genTB.py) -/
import Derived.Test.YtfcpbpfemmdklaaA
namespace Go.Proofs.Ytfcpbpfemmdklaa
open Go.RowKit
set_option linter.unusedSimpArgs false
set_option linter.unusedVariables false

/-- What a layer has, but for its kids. -/
structure Dat where
  id : Int
  kind : Int
  hid : Bool
  op : Int
  mode : Int
  w : Int
  h : Int
  p : List Int
  mask : List Int
  ma : Int
  mb : Int
  mc : Int
  md : Int
  me : Int
  mf : Int
  smooth : Bool
  table : Int
  pars : List Int
/-- A layer in plain words. -/
inductive Lay where
  | mk (d : Dat) (kids : List Lay)
/-- A layer with the headers of its lists. -/
inductive Loc where
  | mk (d : Dat) (p m q k : Hd) (kids : List Loc)
def Loc.dat : Loc → Dat
  | .mk d _ _ _ _ _ => d
def Loc.kids : Loc → List Loc
  | .mk _ _ _ _ _ ks => ks
def Loc.kh : Loc → Hd
  | .mk _ _ _ _ k _ => k
def cells19 (d : Dat) (p m q k : Hd) : List Value := [.int .i64 d.id, .int .i64 d.kind, .bool d.hid, .int .i64 d.op, .int .i64 d.mode, .int .i64 d.w, .int .i64 d.h, (.slice p.a p.n p.c), (.slice m.a m.n m.c), .int .i64 d.ma, .int .i64 d.mb, .int .i64 d.mc, .int .i64 d.md, .int .i64 d.me, .int .i64 d.mf, .bool d.smooth, .int .i64 d.table, (.slice q.a q.n q.c), (.slice k.a k.n k.c)]
def Loc.cells : Loc → List Value
  | .mk d p m q k _ => cells19 d p m q k
theorem Loc.cells_length (l : Loc) : l.cells.length = 19 := by cases l; rfl
theorem Loc.cells_one (l : Loc) : ∀ u ∈ l.cells, u.oneCell' = true := by
  cases l
  intro u hu
  simp [Loc.cells, cells19] at hu
  rcases hu with h | h | h | h | h | h | h | h | h | h | h | h | h | h | h | h | h | h | h <;> (subst h; rfl)
/-- The cells of layers, one behind the other. -/
def flat : List Loc → List Value
  | [] => []
  | l :: ls => l.cells ++ flat ls
theorem flat_length : ∀ ls : List Loc, (flat ls).length = ls.length * 19
  | [] => rfl
  | l :: ls => by rw [flat, List.length_append, Loc.cells_length, flat_length ls, List.length_cons]; omega
theorem flat_one : ∀ (ls : List Loc), ∀ u ∈ flat ls, u.oneCell' = true
  | [], u, h => by cases h
  | l :: ls, u, h => by
    rw [flat] at h
    rcases List.mem_append.1 h with h | h
    · exact l.cells_one u h
    · exact flat_one ls u h
theorem flat_append : ∀ (xs ys : List Loc), flat (xs ++ ys) = flat xs ++ flat ys
  | [], ys => rfl
  | x :: xs, ys => by rw [List.cons_append, flat, flat, flat_append xs ys, List.append_assoc]
theorem flat_at : ∀ (ls : List Loc) (i : Nat) (l : Loc), ls[i]? = some l → ∀ (j : Nat) (u : Value), l.cells[j]? = some u → (flat ls)[i * 19 + j]? = some u
  | x :: xs, 0, l, h, j, u, hj => by
    cases h
    rw [flat, Nat.zero_mul, Nat.zero_add, List.getElem?_append_left (by exact (List.getElem?_eq_some_iff.1 hj).1)]
    exact hj
  | x :: xs, i + 1, l, h, j, u, hj => by
    rw [flat, List.getElem?_append_right (by rw [Loc.cells_length]; omega), Loc.cells_length, show (i + 1) * 19 + j - 19 = i * 19 + j by omega]
    exact flat_at xs i l h j u hj
def ints (l : List Int) : List Value := l.map (Value.int .i64)
def bytes (l : List Int) : List Value := l.map (Value.int .u8)
/-- A condition on all lists of all layers: what they are of, how many cells each has, header, cells. -/
def All (R : Nat → Nat → Hd → List Value → Prop) : List Loc → Prop
  | [] => True
  | .mk d p m q k kids :: ls => R 3 1 p (ints d.p) ∧ R 5 1 m (bytes d.mask) ∧ R 3 1 q (ints d.pars) ∧ R 48 19 k (flat kids) ∧ All R kids ∧ All R ls
/-- All headers. -/
def hds : List Loc → List Hd
  | [] => []
  | .mk d p m q k kids :: ls => p :: m :: q :: k :: (hds kids ++ hds ls)
theorem All.imp {R S : Nat → Nat → Hd → List Value → Prop} : ∀ {ls : List Loc}, All R ls → (∀ e k h vs, h ∈ hds ls → R e k h vs → S e k h vs) → All S ls
  | [], _, _ => by rw [All]; trivial
  | .mk d p m q k kids :: ls, h, f => by
    rw [All] at h ⊢
    obtain ⟨h1, h2, h3, h4, h5, h6⟩ := h
    refine ⟨f _ _ _ _ (by simp [hds]) h1, f _ _ _ _ (by simp [hds]) h2, f _ _ _ _ (by simp [hds]) h3, f _ _ _ _ (by simp [hds]) h4, All.imp h5 fun e k h vs hm => f e k h vs (by simp [hds, hm]), All.imp h6 fun e k h vs hm => f e k h vs (by simp [hds, hm])⟩
theorem All.append {R : Nat → Nat → Hd → List Value → Prop} : ∀ {xs ys : List Loc}, All R (xs ++ ys) ↔ All R xs ∧ All R ys
  | [], ys => by rw [All]; simp
  | .mk d p m q k kids :: xs, ys => by rw [List.cons_append, All, All, All.append (xs := xs)]; simp only [and_assoc]
theorem All.one {R : Nat → Nat → Hd → List Value → Prop} {ls : List Loc} (h : All R ls) {i : Nat} {l : Loc} (hl : ls[i]? = some l) : All R [l] := by
  have e : ls = ls.take i ++ l :: ls.drop (i + 1) := by
    have hi := (List.getElem?_eq_some_iff.1 hl).1
    have hg : ls[i] = l := (List.getElem?_eq_some_iff.1 hl).2
    rw [← hg, ← List.drop_eq_getElem_cons hi, List.take_append_drop]
  rw [e, All.append] at h
  have h2 : All R ([l] ++ ls.drop (i + 1)) := h.2
  exact (All.append.1 h2).1
theorem hds_append : ∀ (xs ys : List Loc), hds (xs ++ ys) = hds xs ++ hds ys
  | [], ys => by rw [hds]; rfl
  | .mk d p m q k kids :: xs, ys => by rw [List.cons_append, hds, hds, hds_append xs ys]; simp
/-- The block of a header. -/
def Hd.blk (h : Hd) : List Nat := match h.a with
  | none => []
  | some x => [x.block]
def blks (ls : List Loc) : List Nat := (hds ls).flatMap Hd.blk
theorem blks_append (xs ys : List Loc) : blks (xs ++ ys) = blks xs ++ blks ys := by unfold blks; rw [hds_append, List.flatMap_append]
theorem mem_blks {ls : List Loc} {h : Hd} {x : Addr} (hm : h ∈ hds ls) (hx : h.a = some x) : x.block ∈ blks ls := by
  unfold blks
  rw [List.mem_flatMap]
  exact ⟨h, hm, by unfold Hd.blk; rw [hx]; simp⟩
/-- In plain words. -/
def er : List Loc → List Lay
  | [] => []
  | .mk d _ _ _ _ kids :: ls => .mk d (er kids) :: er ls
theorem er_append : ∀ (xs ys : List Loc), er (xs ++ ys) = er xs ++ er ys
  | [], ys => by rw [er]; rfl
  | .mk d p m q k kids :: xs, ys => by rw [List.cons_append, er, er, er_append xs ys]; rfl
theorem er_length : ∀ (xs : List Loc), (er xs).length = xs.length
  | [] => by rw [er]; rfl
  | .mk d p m q k kids :: xs => by rw [er, List.length_cons, er_length xs, List.length_cons]
/-- Lists that can be read. -/
def ReadR (w : World) (e k : Nat) (h : Hd) (vs : List Value) : Prop := Cells k w h vs ∧ h.n ≤ 536870912
def Rep (w : World) (ls : List Loc) : Prop := All (ReadR w) ls
/-- Lists in blocks of their own, from block B on. -/
def OwnR (B : Nat) (w : World) (e k : Nat) (h : Hd) (vs : List Value) : Prop := w.ownsRow B e k (.slice h.a h.n h.c) h.n vs ∧ (∀ u ∈ vs, u.oneCell' = true) ∧ h.n ≤ 536870912
def Own (B : Nat) (w : World) (ls : List Loc) : Prop := All (OwnR B w) ls
theorem Hd.inj {h h' : Hd} (e : Value.slice h.a h.n h.c = Value.slice h'.a h'.n h'.c) : h = h' := by
  cases h; cases h'
  simp at e
  simp [e]
theorem OwnR.read {B : Nat} {w : World} {e k : Nat} {h : Hd} {vs : List Value} (o : OwnR B w e k h vs) : ReadR w e k h vs ∧ ∀ x, h.a = some x → B ≤ x.block ∧ x.off = 0 := by
  obtain ⟨h1, h2, h3⟩ := o
  obtain ⟨hd, e1, e2, e3, e4⟩ := own_cells h1 h2
  obtain rfl := Hd.inj e1
  exact ⟨⟨e3, h3⟩, e4⟩
theorem Own.rep {B : Nat} {w : World} {ls : List Loc} (h : Own B w ls) : Rep w ls := All.imp h fun _ _ _ _ _ o => o.read.1
theorem ReadR.keep {X : Nat → Prop} {w w' : World} {e k : Nat} {h : Hd} {vs : List Value} (o : ReadR w e k h vs) (kk : Keeps X w w') (hX : ∀ x, h.a = some x → ¬ X x.block) : ReadR w' e k h vs := ⟨o.1.keep kk hX, o.2⟩
theorem Rep.later {w w' : World} {ls : List Loc} (h : Rep w ls) (k : Keeps none' w w') : Rep w' ls := All.imp h fun _ _ _ _ _ o => o.keep k (fun _ _ h => h)
theorem ownsRow_kept {w w' : World} {B e k n : Nat} {v : Value} {xs : List Value} (h : w.ownsRow B e k v n xs) (hk : ∀ b, v.ownBlock = some b → w'.heap[b]? = w.heap[b]?) : w'.ownsRow B e k v n xs := by
  refine ⟨h.1, ?_⟩
  rcases h.2 with h2 | ⟨g, cap, cur, rfl, hb, hg, h3⟩
  · exact .inl h2
  · exact .inr ⟨g, cap, cur, rfl, hb, (hk g rfl).trans hg, h3⟩
theorem OwnR.keep {X : Nat → Prop} {B : Nat} {w w' : World} {e k : Nat} {h : Hd} {vs : List Value} (o : OwnR B w e k h vs) (kk : Keeps X w w') (hX : ∀ x, h.a = some x → ¬ X x.block) : OwnR B w' e k h vs := by
  refine ⟨ownsRow_kept o.1 fun b hb => ?_, o.2⟩
  obtain ⟨a, n, c⟩ := h
  cases a with
  | none => cases hb
  | some x =>
    cases hb
    exact kk.block _ (o.read.1.1.at' x rfl).2.1 (hX x rfl)
theorem OwnR.low {B B' : Nat} {w : World} {e k : Nat} {h : Hd} {vs : List Value} (o : OwnR B w e k h vs) (hB : B' ≤ B) : OwnR B' w e k h vs := by
  obtain ⟨⟨h1, h2⟩, h3⟩ := o
  refine ⟨⟨h1, ?_⟩, h3⟩
  rcases h2 with h2 | ⟨g, cap, cur, e1, hb, hg⟩
  · exact .inl h2
  · exact .inr ⟨g, cap, cur, e1, Nat.le_trans hB hb, hg⟩
theorem Own.keep {X : Nat → Prop} {B : Nat} {w w' : World} {ls : List Loc} (h : Own B w ls) (kk : Keeps X w w') (hX : ∀ b ∈ blks ls, ¬ X b) : Own B w' ls :=
  All.imp h fun _ _ _ _ hm o => o.keep kk (fun x hx => hX _ (mem_blks hm hx))
theorem Own.later {B : Nat} {w w' : World} {ls : List Loc} (h : Own B w ls) (k : Keeps none' w w') : Own B w' ls := h.keep k (fun _ _ h => h)
theorem Own.low {B B' : Nat} {w : World} {ls : List Loc} (h : Own B w ls) (hB : B' ≤ B) : Own B' w ls := All.imp h fun _ _ _ _ _ o => o.low hB
theorem All.mem {R : Nat → Nat → Hd → List Value → Prop} : ∀ {ls : List Loc}, All R ls → ∀ h ∈ hds ls, ∃ e k vs, R e k h vs
  | [], _, h, hm => by rw [hds] at hm; cases hm
  | .mk d p m q k kids :: ls, ha, h, hm => by
    rw [All] at ha
    rw [hds] at hm
    obtain ⟨h1, h2, h3, h4, h5, h6⟩ := ha
    rcases List.mem_cons.1 hm with rfl | hm
    · exact ⟨_, _, _, h1⟩
    rcases List.mem_cons.1 hm with rfl | hm
    · exact ⟨_, _, _, h2⟩
    rcases List.mem_cons.1 hm with rfl | hm
    · exact ⟨_, _, _, h3⟩
    rcases List.mem_cons.1 hm with rfl | hm
    · exact ⟨_, _, _, h4⟩
    rcases List.mem_append.1 hm with hm | hm
    · exact All.mem h5 h hm
    · exact All.mem h6 h hm
/-- Where the blocks lie. -/
theorem Own.range {B : Nat} {w : World} {ls : List Loc} (h : Own B w ls) : ∀ b ∈ blks ls, B ≤ b ∧ b < w.heap.size := by
  intro b hb
  unfold blks at hb
  obtain ⟨hd, hm, hb⟩ := List.mem_flatMap.1 hb
  obtain ⟨e, k, vs, o⟩ := All.mem h hd hm
  unfold Hd.blk at hb
  cases hx : hd.a with
  | none => rw [hx] at hb; cases hb
  | some x =>
    rw [hx] at hb
    obtain rfl := List.mem_singleton.1 hb
    exact ⟨(o.read.2 x hx).1, (o.read.1.1.at' x hx).2.1⟩
/-- A layer that lies in a block alone. -/
def Lb (w : World) (A : Nat) (d : Dat) (p m q k : Hd) : Prop := w.heap[A]? = some (.cells (cells19 d p m q k).toArray 48 (0, 0))
theorem Lb.lt {w : World} {A : Nat} {d : Dat} {p m q k : Hd} (h : Lb w A d p m q k) : A < w.heap.size := lt_of_block h
theorem Lb.c0 {w : World} {A : Nat} {d : Dat} {p m q k : Hd} (h : Lb w A d p m q k) : w.cell? ⟨A, 0, none⟩ = some (.int .i64 d.id) := by simp [World.cell?, show w.heap[A]? = _ from h, cells19]
theorem Lb.c1 {w : World} {A : Nat} {d : Dat} {p m q k : Hd} (h : Lb w A d p m q k) : w.cell? ⟨A, 1, none⟩ = some (.int .i64 d.kind) := by simp [World.cell?, show w.heap[A]? = _ from h, cells19]
theorem Lb.c2 {w : World} {A : Nat} {d : Dat} {p m q k : Hd} (h : Lb w A d p m q k) : w.cell? ⟨A, 2, none⟩ = some (.bool d.hid) := by simp [World.cell?, show w.heap[A]? = _ from h, cells19]
theorem Lb.c3 {w : World} {A : Nat} {d : Dat} {p m q k : Hd} (h : Lb w A d p m q k) : w.cell? ⟨A, 3, none⟩ = some (.int .i64 d.op) := by simp [World.cell?, show w.heap[A]? = _ from h, cells19]
theorem Lb.c4 {w : World} {A : Nat} {d : Dat} {p m q k : Hd} (h : Lb w A d p m q k) : w.cell? ⟨A, 4, none⟩ = some (.int .i64 d.mode) := by simp [World.cell?, show w.heap[A]? = _ from h, cells19]
theorem Lb.c5 {w : World} {A : Nat} {d : Dat} {p m q k : Hd} (h : Lb w A d p m q k) : w.cell? ⟨A, 5, none⟩ = some (.int .i64 d.w) := by simp [World.cell?, show w.heap[A]? = _ from h, cells19]
theorem Lb.c6 {w : World} {A : Nat} {d : Dat} {p m q k : Hd} (h : Lb w A d p m q k) : w.cell? ⟨A, 6, none⟩ = some (.int .i64 d.h) := by simp [World.cell?, show w.heap[A]? = _ from h, cells19]
theorem Lb.c7 {w : World} {A : Nat} {d : Dat} {p m q k : Hd} (h : Lb w A d p m q k) : w.cell? ⟨A, 7, none⟩ = some ((.slice p.a p.n p.c)) := by simp [World.cell?, show w.heap[A]? = _ from h, cells19]
theorem Lb.c8 {w : World} {A : Nat} {d : Dat} {p m q k : Hd} (h : Lb w A d p m q k) : w.cell? ⟨A, 8, none⟩ = some ((.slice m.a m.n m.c)) := by simp [World.cell?, show w.heap[A]? = _ from h, cells19]
theorem Lb.c9 {w : World} {A : Nat} {d : Dat} {p m q k : Hd} (h : Lb w A d p m q k) : w.cell? ⟨A, 9, none⟩ = some (.int .i64 d.ma) := by simp [World.cell?, show w.heap[A]? = _ from h, cells19]
theorem Lb.c10 {w : World} {A : Nat} {d : Dat} {p m q k : Hd} (h : Lb w A d p m q k) : w.cell? ⟨A, 10, none⟩ = some (.int .i64 d.mb) := by simp [World.cell?, show w.heap[A]? = _ from h, cells19]
theorem Lb.c11 {w : World} {A : Nat} {d : Dat} {p m q k : Hd} (h : Lb w A d p m q k) : w.cell? ⟨A, 11, none⟩ = some (.int .i64 d.mc) := by simp [World.cell?, show w.heap[A]? = _ from h, cells19]
theorem Lb.c12 {w : World} {A : Nat} {d : Dat} {p m q k : Hd} (h : Lb w A d p m q k) : w.cell? ⟨A, 12, none⟩ = some (.int .i64 d.md) := by simp [World.cell?, show w.heap[A]? = _ from h, cells19]
theorem Lb.c13 {w : World} {A : Nat} {d : Dat} {p m q k : Hd} (h : Lb w A d p m q k) : w.cell? ⟨A, 13, none⟩ = some (.int .i64 d.me) := by simp [World.cell?, show w.heap[A]? = _ from h, cells19]
theorem Lb.c14 {w : World} {A : Nat} {d : Dat} {p m q k : Hd} (h : Lb w A d p m q k) : w.cell? ⟨A, 14, none⟩ = some (.int .i64 d.mf) := by simp [World.cell?, show w.heap[A]? = _ from h, cells19]
theorem Lb.c15 {w : World} {A : Nat} {d : Dat} {p m q k : Hd} (h : Lb w A d p m q k) : w.cell? ⟨A, 15, none⟩ = some (.bool d.smooth) := by simp [World.cell?, show w.heap[A]? = _ from h, cells19]
theorem Lb.c16 {w : World} {A : Nat} {d : Dat} {p m q k : Hd} (h : Lb w A d p m q k) : w.cell? ⟨A, 16, none⟩ = some (.int .i64 d.table) := by simp [World.cell?, show w.heap[A]? = _ from h, cells19]
theorem Lb.c17 {w : World} {A : Nat} {d : Dat} {p m q k : Hd} (h : Lb w A d p m q k) : w.cell? ⟨A, 17, none⟩ = some ((.slice q.a q.n q.c)) := by simp [World.cell?, show w.heap[A]? = _ from h, cells19]
theorem Lb.c18 {w : World} {A : Nat} {d : Dat} {p m q k : Hd} (h : Lb w A d p m q k) : w.cell? ⟨A, 18, none⟩ = some ((.slice k.a k.n k.c)) := by simp [World.cell?, show w.heap[A]? = _ from h, cells19]
theorem Lb.fr {w : World} {A i : Nat} {d : Dat} {p m q k : Hd} (h : Lb w A d p m q k) : w.frozen? ⟨A, i, none⟩ = false := by simp [World.frozen?, show w.heap[A]? = _ from h]
theorem Lb.new (w : World) (d : Dat) (p m q k : Hd) : Lb (w.alloc (.cells (cells19 d p m q k).toArray 48)) w.heap.size d p m q k := heap_alloc_new _ _
theorem Lb.later {w w' : World} {A : Nat} {d : Dat} {p m q k : Hd} (h : Lb w A d p m q k) (kk : Keeps none' w w') : Lb w' A d p m q k := (kk.later A h.lt).trans h
theorem Lb.alloc {w : World} {A : Nat} {d : Dat} {p m q k : Hd} (h : Lb w A d p m q k) (o : Obj) : Lb (w.alloc o) A d p m q k := (Below.heap_alloc _ _ _ h.lt).trans h
theorem Lb.other {w : World} {A R i : Nat} {d : Dat} {p m q k : Hd} (h : Lb w A d p m q k) (hn : A ≠ R) (v : Value) : Lb (w.setCell ⟨R, i, none⟩ v) A d p m q k := (Below.heap_setCell _ _ _ _ hn).trans h
theorem Lb.s7 {w : World} {A : Nat} {d : Dat} {p m q k : Hd} (h : Lb w A d p m q k) (x : Hd) : Lb (w.setCell ⟨A, 7, none⟩ (.slice x.a x.n x.c)) A d x m q k := by
  unfold Lb
  rw [block_set h]
  rfl
theorem Lb.s8 {w : World} {A : Nat} {d : Dat} {p m q k : Hd} (h : Lb w A d p m q k) (x : Hd) : Lb (w.setCell ⟨A, 8, none⟩ (.slice x.a x.n x.c)) A d p x q k := by
  unfold Lb
  rw [block_set h]
  rfl
theorem Lb.s17 {w : World} {A : Nat} {d : Dat} {p m q k : Hd} (h : Lb w A d p m q k) (x : Hd) : Lb (w.setCell ⟨A, 17, none⟩ (.slice x.a x.n x.c)) A d p m x k := by
  unfold Lb
  rw [block_set h]
  rfl
theorem Lb.s18 {w : World} {A : Nat} {d : Dat} {p m q k : Hd} (h : Lb w A d p m q k) (x : Hd) : Lb (w.setCell ⟨A, 18, none⟩ (.slice x.a x.n x.c)) A d p m q x := by
  unfold Lb
  rw [block_set h]
  rfl
end Go.Proofs.Ytfcpbpfemmdklaa
