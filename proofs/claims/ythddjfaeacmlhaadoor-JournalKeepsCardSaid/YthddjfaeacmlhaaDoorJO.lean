/- A journal on its reel, in memory; the contracts of heed, Size, Sync, Append. -/
import Derived.Test.YthddjfaeacmlhaaDoorJI
import Derived.Test.YthddjfaeacmlhaaDoorRI
namespace Go.Proofs.YthddjfaeacmlhaaDoor
open Go.RowKit Jr
set_option linter.unusedVariables false

/-- Bytes as the reel's model has them. -/
def ints (l : List Nat) : List Int := l.map (fun x : Nat => (x : Int))
theorem ints_length (l : List Nat) : (ints l).length = l.length := by simp [ints]
theorem ints_append (l k : List Nat) : ints (l ++ k) = ints l ++ ints k := by simp [ints]
theorem ints_take (l : List Nat) (n : Nat) : (ints l).take n = ints (l.take n) := by simp [ints]
theorem ints_cells (l : List Nat) : (ints l).map (Value.int .u8) = bys l := by simp [ints, bys]
theorem ints_byte {l : List Nat} (h : Byte l) : ∀ y ∈ ints l, 0 ≤ y ∧ y ≤ 255 := by
  intro y hy
  simp only [ints, List.mem_map] at hy
  obtain ⟨x, hx, rfl⟩ := hy
  have := h x hx
  omega
theorem nats_of {xs : List Int} (h : ∀ x ∈ xs, 0 ≤ x ∧ x ≤ 255) : ∃ l, xs = ints l ∧ Byte l := by
  refine ⟨xs.map Int.toNat, ?_, ?_⟩
  · unfold ints
    rw [List.map_map]
    conv => lhs; rw [← List.map_id xs]
    apply List.map_congr_left
    intro x hx
    have := h x hx
    simp only [id, Function.comp_apply]
    omega
  · intro y hy
    simp only [List.mem_map] at hy
    obtain ⟨x, hx, rfl⟩ := hy
    have := h x hx
    omega
theorem Arg.src {w : World} {a : Option Addr} {n c : Nat} {ys : List Nat} (h : Arg w a n c ys) : Re.Src w a n (ints ys) := by
  refine ⟨by rw [ints_length, h.len], ints_byte h.byte, ?_⟩
  cases a with
  | none => exact Or.inl ⟨rfl, (h.2.2 rfl).1⟩
  | some ad =>
    refine Or.inr ⟨ad, rfl, fun j u hj => ?_⟩
    rw [ints_cells] at hj
    unfold bys at hj
    rw [List.getElem?_map] at hj
    cases hx : ys[j]? with
    | none => rw [hx] at hj; cases hj
    | some y =>
      rw [hx] at hj
      cases hj
      have hjl := (List.getElem?_eq_some_iff.1 hx).1
      obtain ⟨b, off, e, hc⟩ := h.1.2.2 (by have := h.len; omega)
      cases e
      rw [add_spot]
      exact hc j y hx

/-- A journal at block J, on the reel at block R. -/
structure Jn (W : World) (B R J : Nat) (D : Option Nat) (m : Re.M) (sz : Nat) (cl : Bool) : Prop where
  reel : Re.Reel W B R D m
  blk : W.heap[J]? = some (.cells #[.pointer (some ⟨R, 0, none⟩), .int .i64 sz, .bool cl] 62 (0, 0))
  at_ : B ≤ J
  ne : J ≠ R
  nd : D ≠ some J
theorem jn_cells {W : World} {J : Nat} {a b c : Value} {t : TypeId} (h : W.heap[J]? = some (.cells #[a, b, c] t (0, 0))) :
    W.cell? ⟨J, 0, none⟩ = some a ∧ W.cell? ⟨J, 1, none⟩ = some b ∧ W.cell? ⟨J, 2, none⟩ = some c := by
  simp [World.cell?, h]
theorem jn_free {W : World} {J : Nat} {c : Array Value} {t : TypeId} (h : W.heap[J]? = some (.cells c t (0, 0))) (i : Nat) : W.frozen? ⟨J, i, none⟩ = false := by
  simp [World.frozen?, h]
theorem Jn.lt {W : World} {B R J sz : Nat} {D : Option Nat} {m : Re.M} {cl : Bool} (h : Jn W B R J D m sz cl) : J < W.heap.size := lt_of_block h.blk
/-- Its own cells set. -/
theorem Jn.close {W : World} {B R J sz : Nat} {D : Option Nat} {m : Re.M} {cl : Bool} (h : Jn W B R J D m sz cl) (c : Bool) : Jn (W.setCell ⟨J, 2, none⟩ (.bool c)) B R J D m sz c := by
  refine ⟨h.reel.kept (Below.heap_setCell _ _ _ _ (fun e => h.ne e.symm)) (fun k e => Below.heap_setCell _ _ _ _ (fun e2 => h.nd (by rw [e, e2]))), ?_, h.at_, h.ne, h.nd⟩
  rw [block_set h.blk]
  simp
theorem Jn.grow {W : World} {B R J sz : Nat} {D : Option Nat} {m : Re.M} {cl : Bool} (h : Jn W B R J D m sz cl) (s : Nat) : Jn (W.setCell ⟨J, 1, none⟩ (.int .i64 s)) B R J D m s cl := by
  refine ⟨h.reel.kept (Below.heap_setCell _ _ _ _ (fun e => h.ne e.symm)) (fun k e => Below.heap_setCell _ _ _ _ (fun e2 => h.nd (by rw [e, e2]))), ?_, h.at_, h.ne, h.nd⟩
  rw [block_set h.blk]
  simp
theorem Jn.later {W W' : World} {B R J sz : Nat} {D : Option Nat} {m : Re.M} {cl : Bool} (h : Jn W B R J D m sz cl) (hb : Below W.heap.size W W') : Jn W' B R J D m sz cl :=
  ⟨h.reel.kept (hb.block _ h.reel.lt) (fun k e => hb.block _ (h.reel.data_lt e).2), (hb.block _ h.lt).trans h.blk, h.at_, h.ne, h.nd⟩
/-- The blocks that a call may turn. -/
def Hold (R J : Nat) (D : Option Nat) (k : Nat) : Prop := k = R ∨ k = J ∨ some k = D
/-- Behind a reel's call: the journal. -/
theorem Jn.after {W W' : World} {B R J sz : Nat} {D : Option Nat} {m : Re.M} {cl : Bool} {r : Int × Re.M} {e : Ending} (h : Jn W B R J D m sz cl) (ha : Re.After W B R D r e W') :
    e = .returned (.int .i64 r.1) ∧ ∃ D', Jn W' B R J D' r.2 sz cl ∧ Re.Keeps (Hold R J D) W W' ∧ (D' = D ∨ ∃ k, D' = some k ∧ W.heap.size ≤ k) := by
  obtain ⟨he, D', hr, hk, hd⟩ := ha
  refine ⟨he, D', ⟨hr, ?_, h.at_, h.ne, ?_⟩, hk.mono (fun i _ hi => by rcases hi with hi | hi; exact Or.inl hi; exact Or.inr (Or.inr hi)), hd⟩
  · exact (hk.block J h.lt (fun hi => by rcases hi with hi | hi; exact h.ne hi; exact h.nd hi.symm)).trans h.blk
  · rcases hd with rfl | ⟨k, rfl, hk2⟩
    · exact h.nd
    · intro e2; simp only [Option.some.injEq] at e2; have := h.lt; omega

theorem heed_any (W : World) (J R sz : Nat) (cl : Bool) (f : Int) (hb : W.heap[J]? = some (.cells #[.pointer (some ⟨R, 0, none⟩), .int .i64 sz, .bool cl] 62 (0, 0))) :
    Calls Tryd.prog 33 #[.pointer (some ⟨J, 0, none⟩), .int .i64 f] W fun e W' => e = .returned (.int .i64 f) ∧ W' = W.setCell ⟨J, 2, none⟩ (.bool (f == 11)) := by
  obtain ⟨h0, h1, h2⟩ := jn_cells hb
  have f2 := jn_free hb 2
  clear h0 h1 hb
  go_enter Tryd.func33, Tryd.ntmps33
  go_wp2
  go_ret
  exact ⟨rfl, rfl⟩
theorem jsize_any (W : World) (B R J : Nat) (D : Option Nat) (m : Re.M) (sz : Nat) (cl : Bool) (h : Jn W B R J D m sz cl) :
    Calls Tryd.prog 17 #[.pointer (some ⟨J, 0, none⟩)] W fun e W' => e = .returned (.int .i64 sz) ∧ W' = W := by
  obtain ⟨h0, h1, h2⟩ := jn_cells h.blk
  clear h0 h2 h
  go_enter Tryd.func17, Tryd.ntmps17
  go_wp2
  go_ret
  exact ⟨rfl, rfl⟩

/-- Behind a journal's call. -/
def Did (W : World) (B R J : Nat) (D : Option Nat) (f : Int) (m : Re.M) (sz : Nat) (cl : Bool) (e : Ending) (W' : World) : Prop :=
  e = .returned (.int .i64 f) ∧ ∃ D', Jn W' B R J D' m sz cl ∧ Re.Keeps (Hold R J D) W W' ∧ (D' = D ∨ ∃ k, D' = some k ∧ W.heap.size ≤ k)
theorem jsync_closed (W : World) (B R J : Nat) (D : Option Nat) (m : Re.M) (sz : Nat) (h : Jn W B R J D m sz true) :
    Calls Tryd.prog 19 #[.pointer (some ⟨J, 0, none⟩)] W fun e W' => e = .returned (.int .i64 60) ∧ W' = W := by
  obtain ⟨h0, h1, h2⟩ := jn_cells h.blk
  clear h0 h1 h
  go_enter Tryd.func19, Tryd.ntmps19
  go_wp2
  go_ret
  exact ⟨rfl, rfl⟩
theorem jappend_closed (W : World) (B R J : Nat) (D : Option Nat) (m : Re.M) (sz : Nat) (h : Jn W B R J D m sz true) (a : Option Addr) (n c : Nat) :
    Calls Tryd.prog 18 #[.pointer (some ⟨J, 0, none⟩), .slice a n c] W fun e W' => e = .returned (.int .i64 60) ∧ W' = W := by
  obtain ⟨h0, h1, h2⟩ := jn_cells h.blk
  clear h0 h1 h
  go_enter Tryd.func18, Tryd.ntmps18
  go_wp2
  go_ret
  exact ⟨rfl, rfl⟩
theorem keeps_set {R J : Nat} {D : Option Nat} {W W' : World} (h : Re.Keeps (Hold R J D) W W') (i : Nat) (v : Value) : Re.Keeps (Hold R J D) W (W'.setCell ⟨J, i, none⟩ v) :=
  h.setCell (p := ⟨J, i, none⟩) (fun _ => Or.inr (Or.inl rfl)) v
theorem jsync_any (W : World) (B R J : Nat) (D : Option Nat) (m : Re.M) (sz : Nat) (h : Jn W B R J D m sz false) :
    Calls Tryd.prog 19 #[.pointer (some ⟨J, 0, none⟩)] W (Did W B R J D m.sync.1 m.sync.2 sz (m.sync.1 == 11)) := by
  obtain ⟨h0, h1, h2⟩ := jn_cells h.blk
  have C := Lib.hid (Re.sync_any W B R D m h.reel)
  have H := Lib.hid h
  clear h1 h
  go_enter Tryd.func19, Tryd.ntmps19
  go_wp2_with fail
  refine C.out.mono ?_
  intro e W1 ha
  obtain ⟨rfl, D1, hj, hk, hd⟩ := H.out.after ha
  have C2 := Lib.hid (heed_any W1 J R sz false m.sync.1 hj.blk)
  have X := Lib.hid (show Did W B R J D m.sync.1 m.sync.2 sz (m.sync.1 == 11) (.returned (.int .i64 m.sync.1)) (W1.setCell ⟨J, 2, none⟩ (.bool (m.sync.1 == 11))) from
    ⟨rfl, D1, hj.close _, keeps_set hk _ _, hd⟩)
  clear ha hj hk hd
  generalize m.sync.1 = f at *
  generalize m.sync.2 = m' at *
  go_wp2_with fail
  refine C2.out.mono ?_
  rintro e W2 ⟨rfl, rfl⟩
  go_wp2_with fail
  go_ret
  exact X.out

theorem rappend_all (W : World) (B R : Nat) (D : Option Nat) (m : Re.M) (h : Re.Reel W B R D m) (hB : B ≤ W.heap.size) (a : Option Addr) (n c : Nat) (ys : List Int) (hs : Re.Src W a n ys) (hn : n ≤ maxLen) (hac : a = none → c = 0) :
    Calls Tryd.prog 34 #[.pointer (some ⟨R, 0, none⟩), .slice a n c] W (Re.After W B R D (m.append ys)) := by
  by_cases hd : m.down = true
  · exact Re.append_down W B R D m h a n c ys hd
  · have hd' : m.down = false := by simpa using hd
    by_cases hr : m.cap - m.xs.length < n
    · exact Re.append_full W B R D m h a n c ys hs.1 hd' hr hn
    · exact Re.append_fits W B R D m h hB a n c ys hs hac hd' (by omega)
theorem keeps_fresh {S : Nat → Prop} {W W1 W2 : World} (hb : Below W.heap.size W W1) (hk : Re.Keeps S W1 W2) : Re.Keeps S W W2 :=
  ⟨hk.os.trans hb.os, hk.tape.trans hb.tape, hk.output.trans hb.output, Nat.le_trans hb.size hk.size, fun k hl hn => (hk.block k (Nat.lt_of_lt_of_le hl hb.size) hn).trans (hb.block k hl)⟩
end Go.Proofs.YthddjfaeacmlhaaDoor
