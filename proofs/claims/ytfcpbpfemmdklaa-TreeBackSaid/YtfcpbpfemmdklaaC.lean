/- Copies of layers: what a copy is; a layer's own copy under that of its kids. (printed by genTC.py) -/
import Derived.Test.YtfcpbpfemmdklaaB
namespace Go.Proofs.Ytfcpbpfemmdklaa
open Go.RowKit
set_option linter.unusedSimpArgs false
set_option linter.unusedVariables false

theorem nodup_app {xs ys : List Nat} {n : Nat} (h1 : xs.Nodup) (h2 : ys.Nodup) (h3 : ∀ x ∈ xs, x < n) (h4 : ∀ y ∈ ys, n ≤ y) : (xs ++ ys).Nodup := by
  rw [List.nodup_append]
  refine ⟨h1, h2, fun a ha b hb e => ?_⟩
  have := h3 a ha
  have := h4 b hb
  omega
theorem Hd.blk_nodup (h : Hd) : h.blk.Nodup := by
  unfold Hd.blk
  cases h.a <;> simp
theorem Hd.blk_mem {h : Hd} {b : Nat} (hb : b ∈ h.blk) : ∃ x, h.a = some x ∧ x.block = b := by
  unfold Hd.blk at hb
  cases hx : h.a with
  | none => rw [hx] at hb; cases hb
  | some x => rw [hx] at hb; exact ⟨x, rfl, (List.mem_singleton.1 hb).symm⟩
theorem OwnR.range {B : Nat} {w : World} {e k : Nat} {h : Hd} {vs : List Value} (o : OwnR B w e k h vs) : ∀ b ∈ h.blk, B ≤ b ∧ b < w.heap.size := by
  intro b hb
  obtain ⟨x, hx, rfl⟩ := Hd.blk_mem hb
  exact ⟨(o.read.2 x hx).1, (o.read.1.1.at' x hx).2.1⟩
theorem OwnR.later {B : Nat} {w w' : World} {e k : Nat} {h : Hd} {vs : List Value} (o : OwnR B w e k h vs) (kk : Keeps none' w w') : OwnR B w' e k h vs := o.keep kk (fun _ _ h => h)
theorem keeps_at (w : World) (A i : Nat) (u : Value) : Keeps (fun q => q = A) w (w.setCell ⟨A, i, none⟩ u) := (Keeps.refl (fun q => q = A) w).setCell (p := ⟨A, i, none⟩) (fun _ => rfl) u
theorem OwnR.set {B A i : Nat} {w : World} {e k : Nat} {h : Hd} {vs : List Value} (o : OwnR B w e k h vs) (hA : A < B) (u : Value) : OwnR B (w.setCell ⟨A, i, none⟩ u) e k h vs :=
  o.keep (keeps_at w A i u) (fun x hx e => by have := (o.read.2 x hx).1; omega)
theorem Own.set {B A i : Nat} {w : World} {ls : List Loc} (o : Own B w ls) (hA : A < B) (u : Value) : Own B (w.setCell ⟨A, i, none⟩ u) ls :=
  o.keep (keeps_at w A i u) (fun b hb e => by have := (o.range b hb).1; omega)
theorem size48 : (Try.prog.info? 48).map (·.size) = some 19 := by kernel_rfl
theorem keeps_row (w : World) (R : Nat) (cs : Array Value) : Keeps (fun q => q = R) w (w.setRow R cs) := ⟨rfl, rfl, rfl, by simp, fun k _ hn => setRow_other w R k cs hn⟩
theorem Keeps.setRow {w w1 : World} (h : Keeps none' w w1) {R : Nat} (hR : w.heap.size ≤ R) (cs : Array Value) : Keeps none' w (w1.setRow R cs) := h.trans (keeps_row w1 R cs) (fun i hi e => by have e' : i = R := e; omega)
/-- A copy of layers. -/
structure CopyOf (w : World) (ls : List Loc) (h' : Hd) (ls' : List Loc) (w' : World) : Prop where
  row : OwnR w.heap.size w' 48 19 h' (flat ls')
  own : Own w.heap.size w' ls'
  same : er ls' = er ls
  keeps : Keeps none' w w'
  nodup : (h'.blk ++ blks ls').Nodup
def Copies (ls : List Loc) : Prop := ∀ h w, ReadR w 48 19 h (flat ls) → Rep w ls → Calls Try.prog 39 #[(.slice h.a h.n h.c)] w fun e w' => ∃ h' ls', e = .returned (.slice h'.a h'.n h'.c) ∧ CopyOf w ls h' ls' w'
/-- A copy of one layer. -/
structure CopyOne (w : World) (l : Loc) (l' : Loc) (w' : World) : Prop where
  own : Own w.heap.size w' [l']
  same : er [l'] = er [l]
  keeps : Keeps none' w w'
  nodup : (blks [l']).Nodup
def Copied (l : Loc) : Prop := ∀ w, Rep w [l] → Calls Try.prog 24 #[.agg l.cells.toArray] w fun e w' => ∃ l', e = .returned (.agg l'.cells.toArray) ∧ CopyOne w l l' w'
theorem clone_own {w w' : World} {e k : Nat} {v : Value} {n : Nat} {vs : List Value} (h : w'.ownsRow w.heap.size e k v n vs) (h1 : ∀ u ∈ vs, u.oneCell' = true) (hn : n ≤ 536870912) : ∃ hd : Hd, v = (.slice hd.a hd.n hd.c) ∧ OwnR w.heap.size w' e k hd vs := by
  obtain ⟨hd, e1, e2, -, -⟩ := own_cells h h1
  subst e1
  subst e2
  exact ⟨hd, rfl, h, h1, hn⟩
theorem ints_one (l : List Int) : ∀ u ∈ ints l, u.oneCell' = true := by
  intro u hu
  obtain ⟨z, -, rfl⟩ := List.mem_map.1 hu
  rfl
theorem bytes_one (l : List Int) : ∀ u ∈ bytes l, u.oneCell' = true := by
  intro u hu
  obtain ⟨z, -, rfl⟩ := List.mem_map.1 hu
  rfl
/-- A block of nineteen cells, written over. -/
theorem block19 {w : World} {R : Nat} {c : Array Value} (hc : w.heap[R]? = some (.cells c 48 (0, 0))) (hs : c.size = 19) (d : Dat) (p m q k : Hd) :
    ((((((((((((((((((((w.setCell ⟨R, 0, none⟩ (.int .i64 d.id)).setCell ⟨R, 1, none⟩ (.int .i64 d.kind)).setCell ⟨R, 2, none⟩ (.bool d.hid)).setCell ⟨R, 3, none⟩ (.int .i64 d.op)).setCell ⟨R, 4, none⟩ (.int .i64 d.mode)).setCell ⟨R, 5, none⟩ (.int .i64 d.w)).setCell ⟨R, 6, none⟩ (.int .i64 d.h)).setCell ⟨R, 7, none⟩ ((.slice p.a p.n p.c))).setCell ⟨R, 8, none⟩ ((.slice m.a m.n m.c))).setCell ⟨R, 9, none⟩ (.int .i64 d.ma)).setCell ⟨R, 10, none⟩ (.int .i64 d.mb)).setCell ⟨R, 11, none⟩ (.int .i64 d.mc)).setCell ⟨R, 12, none⟩ (.int .i64 d.md)).setCell ⟨R, 13, none⟩ (.int .i64 d.me)).setCell ⟨R, 14, none⟩ (.int .i64 d.mf)).setCell ⟨R, 15, none⟩ (.bool d.smooth)).setCell ⟨R, 16, none⟩ (.int .i64 d.table)).setCell ⟨R, 17, none⟩ ((.slice q.a q.n q.c))).setCell ⟨R, 18, none⟩ ((.slice k.a k.n k.c)))).heap[R]? = some (.cells (cells19 d p m q k).toArray 48 (0, 0)) := by
  obtain ⟨l⟩ := c
  match l, hs with
  | [x0, x1, x2, x3, x4, x5, x6, x7, x8, x9, x10, x11, x12, x13, x14, x15, x16, x17, x18], _ =>
    have h0 := block_set (i := 0) hc (.int .i64 d.id)
    simp only [List.setIfInBounds_toArray, List.set_cons_zero, List.set_cons_succ] at h0
    have h1 := block_set (i := 1) h0 (.int .i64 d.kind)
    simp only [List.setIfInBounds_toArray, List.set_cons_zero, List.set_cons_succ] at h1
    have h2 := block_set (i := 2) h1 (.bool d.hid)
    simp only [List.setIfInBounds_toArray, List.set_cons_zero, List.set_cons_succ] at h2
    have h3 := block_set (i := 3) h2 (.int .i64 d.op)
    simp only [List.setIfInBounds_toArray, List.set_cons_zero, List.set_cons_succ] at h3
    have h4 := block_set (i := 4) h3 (.int .i64 d.mode)
    simp only [List.setIfInBounds_toArray, List.set_cons_zero, List.set_cons_succ] at h4
    have h5 := block_set (i := 5) h4 (.int .i64 d.w)
    simp only [List.setIfInBounds_toArray, List.set_cons_zero, List.set_cons_succ] at h5
    have h6 := block_set (i := 6) h5 (.int .i64 d.h)
    simp only [List.setIfInBounds_toArray, List.set_cons_zero, List.set_cons_succ] at h6
    have h7 := block_set (i := 7) h6 ((.slice p.a p.n p.c))
    simp only [List.setIfInBounds_toArray, List.set_cons_zero, List.set_cons_succ] at h7
    have h8 := block_set (i := 8) h7 ((.slice m.a m.n m.c))
    simp only [List.setIfInBounds_toArray, List.set_cons_zero, List.set_cons_succ] at h8
    have h9 := block_set (i := 9) h8 (.int .i64 d.ma)
    simp only [List.setIfInBounds_toArray, List.set_cons_zero, List.set_cons_succ] at h9
    have h10 := block_set (i := 10) h9 (.int .i64 d.mb)
    simp only [List.setIfInBounds_toArray, List.set_cons_zero, List.set_cons_succ] at h10
    have h11 := block_set (i := 11) h10 (.int .i64 d.mc)
    simp only [List.setIfInBounds_toArray, List.set_cons_zero, List.set_cons_succ] at h11
    have h12 := block_set (i := 12) h11 (.int .i64 d.md)
    simp only [List.setIfInBounds_toArray, List.set_cons_zero, List.set_cons_succ] at h12
    have h13 := block_set (i := 13) h12 (.int .i64 d.me)
    simp only [List.setIfInBounds_toArray, List.set_cons_zero, List.set_cons_succ] at h13
    have h14 := block_set (i := 14) h13 (.int .i64 d.mf)
    simp only [List.setIfInBounds_toArray, List.set_cons_zero, List.set_cons_succ] at h14
    have h15 := block_set (i := 15) h14 (.bool d.smooth)
    simp only [List.setIfInBounds_toArray, List.set_cons_zero, List.set_cons_succ] at h15
    have h16 := block_set (i := 16) h15 (.int .i64 d.table)
    simp only [List.setIfInBounds_toArray, List.set_cons_zero, List.set_cons_succ] at h16
    have h17 := block_set (i := 17) h16 ((.slice q.a q.n q.c))
    simp only [List.setIfInBounds_toArray, List.set_cons_zero, List.set_cons_succ] at h17
    have h18 := block_set (i := 18) h17 ((.slice k.a k.n k.c))
    simp only [List.setIfInBounds_toArray, List.set_cons_zero, List.set_cons_succ] at h18
    exact h18
set_option maxRecDepth 100000 in
set_option maxHeartbeats 6400000 in
theorem copied_of (d : Dat) (p m q k : Hd) (kids : List Loc) (HK : Copies kids) : Copied (.mk d p m q k kids) := by
  intro w hr
  unfold Rep at hr
  rw [All] at hr
  obtain ⟨r1, r2, r3, r4, r5, -⟩ := hr
  have RP := Lib.hid r1
  have RM := Lib.hid r2
  have RQ := Lib.hid r3
  have RK := Lib.hid (And.intro r4 (show Rep w kids from r5))
  have HC := Lib.hid HK
  clear r1 r2 r3 r4 r5 HK
  show Calls Try.prog 24 #[.agg #[.int .i64 d.id, .int .i64 d.kind, .bool d.hid, .int .i64 d.op, .int .i64 d.mode, .int .i64 d.w, .int .i64 d.h, (.slice p.a p.n p.c), (.slice m.a m.n m.c), .int .i64 d.ma, .int .i64 d.mb, .int .i64 d.mc, .int .i64 d.md, .int .i64 d.me, .int .i64 d.mf, .bool d.smooth, .int .i64 d.table, (.slice q.a q.n q.c), (.slice k.a k.n k.c)]] w _
  have A0 := Lib.hid ((Lb.new w d p m q k).alloc (.cells #[.int .i64 0, .int .i64 0, .bool false, .int .i64 0, .int .i64 0, .int .i64 0, .int .i64 0, .slice none 0 0, .slice none 0 0, .int .i64 0, .int .i64 0, .int .i64 0, .int .i64 0, .int .i64 0, .int .i64 0, .bool false, .int .i64 0, .slice none 0 0, .slice none 0 0] 48))
  have R0 := Lib.hid (show ((w.alloc (.cells (cells19 d p m q k).toArray 48)).alloc (.cells #[.int .i64 0, .int .i64 0, .bool false, .int .i64 0, .int .i64 0, .int .i64 0, .int .i64 0, .slice none 0 0, .slice none 0 0, .int .i64 0, .int .i64 0, .int .i64 0, .int .i64 0, .int .i64 0, .int .i64 0, .bool false, .int .i64 0, .slice none 0 0, .slice none 0 0] 48)).heap[w.heap.size + 1]? = some (.cells #[.int .i64 0, .int .i64 0, .bool false, .int .i64 0, .int .i64 0, .int .i64 0, .int .i64 0, .slice none 0 0, .slice none 0 0, .int .i64 0, .int .i64 0, .int .i64 0, .int .i64 0, .int .i64 0, .int .i64 0, .bool false, .int .i64 0, .slice none 0 0, .slice none 0 0] 48 (0, 0)) from by
    have := heap_alloc_new (w.alloc (.cells (cells19 d p m q k).toArray 48)) (.cells #[.int .i64 0, .int .i64 0, .bool false, .int .i64 0, .int .i64 0, .int .i64 0, .int .i64 0, .slice none 0 0, .slice none 0 0, .int .i64 0, .int .i64 0, .int .i64 0, .int .i64 0, .int .i64 0, .int .i64 0, .bool false, .int .i64 0, .slice none 0 0, .slice none 0 0] 48)
    simpa using this)
  have K0 := Lib.hid (((Keeps.refl none' w).alloc (.cells (cells19 d p m q k).toArray 48)).alloc (.cells #[.int .i64 0, .int .i64 0, .bool false, .int .i64 0, .int .i64 0, .int .i64 0, .int .i64 0, .slice none 0 0, .slice none 0 0, .int .i64 0, .int .i64 0, .int .i64 0, .int .i64 0, .int .i64 0, .int .i64 0, .bool false, .int .i64 0, .slice none 0 0, .slice none 0 0] 48))
  have S0 := Lib.hid (show ((w.alloc (.cells (cells19 d p m q k).toArray 48)).alloc (.cells #[.int .i64 0, .int .i64 0, .bool false, .int .i64 0, .int .i64 0, .int .i64 0, .int .i64 0, .slice none 0 0, .slice none 0 0, .int .i64 0, .int .i64 0, .int .i64 0, .int .i64 0, .int .i64 0, .int .i64 0, .bool false, .int .i64 0, .slice none 0 0, .slice none 0 0] 48)).heap.size = w.heap.size + 2 from by simp)
  go_enter Try.func24, Try.ntmps24
  go_upto_region 1 with (fail)
  change Code.wp _ _ _ _ ((w.alloc (.cells (cells19 d p m q k).toArray 48)).alloc (.cells #[.int .i64 0, .int .i64 0, .bool false, .int .i64 0, .int .i64 0, .int .i64 0, .int .i64 0, .slice none 0 0, .slice none 0 0, .int .i64 0, .int .i64 0, .int .i64 0, .int .i64 0, .int .i64 0, .int .i64 0, .bool false, .int .i64 0, .slice none 0 0, .slice none 0 0] 48))
  generalize (w.alloc (.cells (cells19 d p m q k).toArray 48)).alloc (.cells #[.int .i64 0, .int .i64 0, .bool false, .int .i64 0, .int .i64 0, .int .i64 0, .int .i64 0, .slice none 0 0, .slice none 0 0, .int .i64 0, .int .i64 0, .int .i64 0, .int .i64 0, .int .i64 0, .int .i64 0, .bool false, .int .i64 0, .slice none 0 0, .slice none 0 0] 48) = w1 at *
  obtain ⟨A, hA⟩ : ∃ A, A = w.heap.size := ⟨_, rfl⟩
  obtain ⟨R, hR⟩ : ∃ R, R = w.heap.size + 1 := ⟨_, rfl⟩
  rw [← hA] at A0
  rw [← hR] at R0
  rw [← hR, ← hA]
  have AR := Lib.hid (show w.heap.size ≤ A ∧ A < R ∧ R < w1.heap.size ∧ A ≠ R from ⟨by omega, by omega, by rw [S0.out]; omega, by omega⟩)
  clear hA hR S0
  have a7 := A0.out.c7
  go_wp2_with fail
  refine (clone_ints p (ints d.p) _ (RP.out.1.later K0.out) RP.out.2).mono ?_
  rintro e v0 ⟨v', rfl, hv, hk⟩
  obtain ⟨p', rfl, ho⟩ := clone_own hv (ints_one _) RP.out.2
  have SP := Lib.hid (show w1.heap.size ≤ v0.heap.size ∧ A < w1.heap.size ∧ R < w1.heap.size from ⟨hk.size, A0.out.lt, lt_of_block R0.out⟩)
  have OP := Lib.hid (ho.set (i := 7) (A := A) (by have := SP.out; omega) (.slice p'.a p'.n p'.c))
  have NP := Lib.hid (show ∀ b ∈ p'.blk, w1.heap.size ≤ b ∧ b < v0.heap.size from ho.range)
  clear hv ho a7
  have a7 := (A0.out.later hk).c7
  have f7 := (A0.out.later hk).fr (i := 7)
  have A1 := Lib.hid ((A0.out.later hk).s7 p')
  have R1 := Lib.hid ((Below.heap_setCell _ ⟨A, 7, none⟩ (.slice p'.a p'.n p'.c) R (by have := AR.out; simp only; omega)).trans ((hk.later R (by have := SP.out; omega)).trans R0.out))
  have K1 := Lib.hid ((K0.out.next hk).setCell (p := ⟨A, 7, none⟩) (fun e => by have := AR.out; simp only at e; omega) (.slice p'.a p'.n p'.c))
  have Z1 := Lib.hid (show ((v0.setCell ⟨A, 7, none⟩ (.slice p'.a p'.n p'.c)).heap.size = v0.heap.size) from by simp [World.setCell])
  clear hk A0 R0 K0 
  go_upto_region 2 with (fail)
  clear a7 f7
  generalize v0.setCell ⟨A, 7, none⟩ (.slice p'.a p'.n p'.c) = x0 at *
  have a8 := A1.out.c8
  go_wp2_with fail
  refine (clone_bytes m (bytes d.mask) _ (RM.out.1.later K1.out) RM.out.2).mono ?_
  rintro e v1 ⟨v', rfl, hv, hk⟩
  obtain ⟨m', rfl, ho⟩ := clone_own hv (bytes_one _) RM.out.2
  have SM := Lib.hid (show x0.heap.size ≤ v1.heap.size ∧ A < x0.heap.size ∧ R < x0.heap.size from ⟨hk.size, A1.out.lt, lt_of_block R1.out⟩)
  have OM := Lib.hid (ho.set (i := 8) (A := A) (by have := SM.out; omega) (.slice m'.a m'.n m'.c))
  have NM := Lib.hid (show ∀ b ∈ m'.blk, x0.heap.size ≤ b ∧ b < v1.heap.size from ho.range)
  clear hv ho a8
  have a8 := (A1.out.later hk).c8
  have f8 := (A1.out.later hk).fr (i := 8)
  have OP1 := Lib.hid ((OP.out.later hk).set (i := 8) (A := A) (by have := SP.out; omega) (.slice m'.a m'.n m'.c))
  have A2 := Lib.hid ((A1.out.later hk).s8 m')
  have R2 := Lib.hid ((Below.heap_setCell _ ⟨A, 8, none⟩ (.slice m'.a m'.n m'.c) R (by have := AR.out; simp only; omega)).trans ((hk.later R (by have := SM.out; omega)).trans R1.out))
  have K2 := Lib.hid ((K1.out.next hk).setCell (p := ⟨A, 8, none⟩) (fun e => by have := AR.out; simp only at e; omega) (.slice m'.a m'.n m'.c))
  have Z2 := Lib.hid (show ((v1.setCell ⟨A, 8, none⟩ (.slice m'.a m'.n m'.c)).heap.size = v1.heap.size) from by simp [World.setCell])
  clear hk A1 R1 K1 OP
  have OP := OP1
  clear OP1
  go_upto_region 3 with (fail)
  clear a8 f8
  generalize v1.setCell ⟨A, 8, none⟩ (.slice m'.a m'.n m'.c) = x1 at *
  have a17 := A2.out.c17
  go_wp2_with fail
  refine (clone_ints q (ints d.pars) _ (RQ.out.1.later K2.out) RQ.out.2).mono ?_
  rintro e v2 ⟨v', rfl, hv, hk⟩
  obtain ⟨q', rfl, ho⟩ := clone_own hv (ints_one _) RQ.out.2
  have SQ := Lib.hid (show x1.heap.size ≤ v2.heap.size ∧ A < x1.heap.size ∧ R < x1.heap.size from ⟨hk.size, A2.out.lt, lt_of_block R2.out⟩)
  have OQ := Lib.hid (ho.set (i := 17) (A := A) (by have := SQ.out; omega) (.slice q'.a q'.n q'.c))
  have NQ := Lib.hid (show ∀ b ∈ q'.blk, x1.heap.size ≤ b ∧ b < v2.heap.size from ho.range)
  clear hv ho a17
  have a17 := (A2.out.later hk).c17
  have f17 := (A2.out.later hk).fr (i := 17)
  have OP2 := Lib.hid ((OP.out.later hk).set (i := 17) (A := A) (by have := SP.out; omega) (.slice q'.a q'.n q'.c))
  have OM2 := Lib.hid ((OM.out.later hk).set (i := 17) (A := A) (by have := SM.out; omega) (.slice q'.a q'.n q'.c))
  have A3 := Lib.hid ((A2.out.later hk).s17 q')
  have R3 := Lib.hid ((Below.heap_setCell _ ⟨A, 17, none⟩ (.slice q'.a q'.n q'.c) R (by have := AR.out; simp only; omega)).trans ((hk.later R (by have := SQ.out; omega)).trans R2.out))
  have K3 := Lib.hid ((K2.out.next hk).setCell (p := ⟨A, 17, none⟩) (fun e => by have := AR.out; simp only at e; omega) (.slice q'.a q'.n q'.c))
  have Z3 := Lib.hid (show ((v2.setCell ⟨A, 17, none⟩ (.slice q'.a q'.n q'.c)).heap.size = v2.heap.size) from by simp [World.setCell])
  clear hk A2 R2 K2 OP OM
  have OP := OP2
  clear OP2
  have OM := OM2
  clear OM2
  go_upto_region 4 with (fail)
  clear a17 f17
  generalize v2.setCell ⟨A, 17, none⟩ (.slice q'.a q'.n q'.c) = x2 at *
  have a18 := A3.out.c18
  go_wp2_with fail
  refine (HC.out k _ (RK.out.1.keep K3.out (fun _ _ h => h)) (RK.out.2.later K3.out)).mono ?_
  rintro e v3 ⟨k', ks', rfl, hcp⟩
  have CP := Lib.hid hcp
  clear a18
  have SK := Lib.hid (show x2.heap.size ≤ v3.heap.size ∧ A < x2.heap.size ∧ R < x2.heap.size from ⟨hcp.keeps.size, A3.out.lt, lt_of_block R3.out⟩)
  have a18 := (A3.out.later hcp.keeps).c18
  have f18 := (A3.out.later hcp.keeps).fr (i := 18)
  have OP3 := Lib.hid ((OP.out.later hcp.keeps).set (i := 18) (A := A) (by have := SP.out; omega) (.slice k'.a k'.n k'.c))
  have OM3 := Lib.hid ((OM.out.later hcp.keeps).set (i := 18) (A := A) (by have := SM.out; omega) (.slice k'.a k'.n k'.c))
  have OQ3 := Lib.hid ((OQ.out.later hcp.keeps).set (i := 18) (A := A) (by have := SQ.out; omega) (.slice k'.a k'.n k'.c))
  have OK := Lib.hid (hcp.row.set (i := 18) (A := A) (by have := SK.out; omega) (.slice k'.a k'.n k'.c))
  have OS := Lib.hid (hcp.own.set (i := 18) (A := A) (by have := SK.out; omega) (.slice k'.a k'.n k'.c))
  have A4 := Lib.hid ((A3.out.later hcp.keeps).s18 k')
  have R4 := Lib.hid ((Below.heap_setCell _ ⟨A, 18, none⟩ (.slice k'.a k'.n k'.c) R (by have := AR.out; simp only; omega)).trans ((hcp.keeps.later R (by have := SK.out; omega)).trans R3.out))
  have K4 := Lib.hid ((K3.out.next hcp.keeps).setCell (p := ⟨A, 18, none⟩) (fun e => by have := AR.out; simp only at e; omega) (.slice k'.a k'.n k'.c))
  have Z4 := Lib.hid (show ((v3.setCell ⟨A, 18, none⟩ (.slice k'.a k'.n k'.c)).heap.size = v3.heap.size) from by simp [World.setCell])
  clear hcp A3 R3 K3 OP OM OQ
  go_upto_region 5 with (fail)
  clear a18 f18
  generalize v3.setCell ⟨A, 18, none⟩ (.slice k'.a k'.n k'.c) = x3 at *
  have ALL1 : (cells19 d p' m' q' k').toArray.all (·.oneCell') = true := by
    rw [Array.all_eq_true_iff_forall_mem]
    intro u hu
    have h : u ∈ cells19 d p' m' q' k' := by simpa using hu
    exact Loc.cells_one (.mk d p' m' q' k' ks') u h
  go_wp2_with (first
    | (refine wpList_load_row rfl 48 _ rfl A rfl 48 (cells19 d p' m' q' k').toArray (0, 0) _ A4.out Try.underlying48 rfl (by exact size48) ?_)
    | (refine wpList_store_row rfl 48 _ _ rfl R (cells19 d p' m' q' k').toArray rfl rfl 48 _ R4.out (by exact size48) rfl ALL1 ?_))
  refine bodyPost_ret (results_cell_row rfl _ _ R 48 (cells19 d p' m' q' k').toArray (0, 0) _ rfl (setRow_heap _ _ _ _ _ _ R4.out) Try.underlying48 rfl (by exact size48)) rfl ?_
  have e0 := Z1.out
  have e1 := Z2.out
  have e2 := Z3.out
  have e3 := AR.out
  have sp := SP.out
  have sm := SM.out
  have sq := SQ.out
  have sk := SK.out
  refine ⟨.mk d p' m' q' k' ks', rfl, ?_, ?_, ?_, ?_⟩
  · unfold Own
    rw [All]
    refine ⟨(OP3.out.keep (keeps_row _ R _) fun x hx e => ?_).low (by omega), (OM3.out.keep (keeps_row _ R _) fun x hx e => ?_).low (by omega), (OQ3.out.keep (keeps_row _ R _) fun x hx e => ?_).low (by omega), (OK.out.keep (keeps_row _ R _) fun x hx e => ?_).low (by omega), (OS.out.keep (keeps_row _ R _) fun b hb e => ?_).low (by omega), by rw [All]; trivial⟩
    · have := (OP3.out.read.2 x hx).1; omega
    · have := (OM3.out.read.2 x hx).1; omega
    · have := (OQ3.out.read.2 x hx).1; omega
    · have := (OK.out.read.2 x hx).1; omega
    · have := (OS.out.range b hb).1; omega
  · rw [er, er, CP.out.same, er, er]
  · exact K4.out.setRow (by omega) _
  · show (List.flatMap Hd.blk (hds [Loc.mk d p' m' q' k' ks'])).Nodup
    rw [hds, hds, List.append_nil]
    simp only [List.flatMap_cons]
    have nk := CP.out.nodup
    have r5 : ∀ b ∈ k'.blk ++ blks ks', x2.heap.size ≤ b := fun b hb => by
      rcases List.mem_append.1 hb with h | h
      · exact (CP.out.row.range b h).1
      · exact (CP.out.own.range b h).1
    have nq : (q'.blk ++ (k'.blk ++ blks ks')).Nodup := nodup_app (Hd.blk_nodup _) nk (fun x hx => (NQ.out x hx).2) (fun y hy => by have := r5 y hy; omega)
    have r4 : ∀ b ∈ q'.blk ++ (k'.blk ++ blks ks'), x1.heap.size ≤ b := fun b hb => by
      rcases List.mem_append.1 hb with h | h
      · exact (NQ.out b h).1
      · have := r5 b h; omega
    have nm : (m'.blk ++ (q'.blk ++ (k'.blk ++ blks ks'))).Nodup := nodup_app (Hd.blk_nodup _) nq (fun x hx => (NM.out x hx).2) (fun y hy => by have := r4 y hy; omega)
    have r3 : ∀ b ∈ m'.blk ++ (q'.blk ++ (k'.blk ++ blks ks')), x0.heap.size ≤ b := fun b hb => by
      rcases List.mem_append.1 hb with h | h
      · exact (NM.out b h).1
      · have := r4 b h; omega
    exact nodup_app (Hd.blk_nodup _) nm (fun x hx => (NP.out x hx).2) (fun y hy => by have := r3 y hy; omega)
end Go.Proofs.Ytfcpbpfemmdklaa
