/- What the laws need of a reel of their own: its methods' contracts over the world at the law's start; the document's example. -/
import Derived.Test.YtccfjpjhkaicgaaI
import Derived.WalkSpells
import Derived.Lib.SlBytesConst
import Derived.Laws.BytesArg
namespace Go.Proofs.Ytccfjpjhkaicgaa
open Go.RowKit

/-- Nothing that was there has turned. -/
def Yes (w : World) (e : Ending) (w' : World) : Prop := e = .returned (.bool true) ∧ Keeps (fun _ => False) w w'

theorem Keeps.own {S : Nat → Prop} {w W W' : World} (h : Keeps (fun _ => False) w W) (k : Keeps S W W') (hS : ∀ i, S i → w.heap.size ≤ i) : Keeps (fun _ => False) w W' :=
  h.trans k (fun i hi s => by have := hS i s; omega)

/-- A reel of the law's own, which began at w. -/
def St (w : World) (R : Nat) (m : M) (W : World) : Prop := ∃ D, Reel W w.heap.size R D m ∧ Keeps (fun _ => False) w W

theorem St.alloc {w W : World} {R : Nat} {m : M} (h : St w R m W) (o : Obj) : St w R m (W.alloc o) := by
  obtain ⟨D, h1, h2⟩ := h
  exact ⟨D, h1.kept (Below.heap_alloc _ _ _ h1.lt) (fun k e => Below.heap_alloc _ _ _ (h1.data_lt e).2), h2.alloc o⟩
theorem St.drewN {w W : World} {R : Nat} {m : M} (h : St w R m W) (n : Nat) : St w R m (W.drewN n) := by
  obtain ⟨D, h1, h2⟩ := h
  exact ⟨D, h1.kept rfl (fun k e => rfl), h2.drewN n⟩
theorem St.below {w W W' : World} {R : Nat} {m : M} (h : St w R m W) (hb : Below W.heap.size W W') : St w R m W' := by
  obtain ⟨D, h1, h2⟩ := h
  exact ⟨D, h1.kept (hb.block _ h1.lt) (fun k e => hb.block _ (h1.data_lt e).2), h2.own (below_keeps hb) (fun _ h => h.elim)⟩
theorem St.after {w W W' : World} {R : Nat} {D : Option Nat} {m : M} {r : Int × M} {e : Ending} (h : Reel W w.heap.size R D m) (hk : Keeps (fun _ => False) w W) (ha : After W w.heap.size R D r e W') :
    e = .returned (.int .i64 r.1) ∧ St w R r.2 W' := by
  obtain ⟨he, D', hr, hk', _⟩ := ha
  refine ⟨he, D', hr, hk.own hk' ?_⟩
  rintro i (e | e)
  · rw [e]; exact h.at_
  · exact (h.data_lt e.symm).1
theorem St.size {w W : World} {R : Nat} {m : M} (h : St w R m W) : w.heap.size ≤ W.heap.size := by obtain ⟨D, h1, h2⟩ := h; exact h2.size
theorem St.keeps {w W : World} {R : Nat} {m : M} (h : St w R m W) : Keeps (fun _ => False) w W := by obtain ⟨D, h1, h2⟩ := h; exact h2
theorem St.ok {w W : World} {R : Nat} {m : M} (h : St w R m W) : m.Ok := by obtain ⟨D, h1, h2⟩ := h; exact h1.ok
theorem St.src {w W : World} {R : Nat} {m : M} (h : St w R m W) {a : Option Addr} {n : Nat} {ys : List Int} (hs : Src w a n ys) : Src W a n ys := hs.later (fun k hk => h.keeps.block k hk (fun h => h))

/-- A slice value that may be read: what is known of it besides its cells. -/
def Fits (a : Option Addr) (n c : Nat) : Prop := n ≤ c ∧ c ≤ maxLen ∧ (a = none → c = 0)

theorem append_all (w : World) (B R : Nat) (D : Option Nat) (m : M) (h : Reel w B R D m) (hB : B ≤ w.heap.size) (a : Option Addr) (n c : Nat) (ys : List Int) (hs : Src w a n ys) (hf : Fits a n c) :
    Calls Try.prog 18 #[.pointer (some ⟨R, 0, none⟩), .slice a n c] w (After w B R D (m.append ys)) := by
  obtain ⟨h1, h2, h3⟩ := hf
  by_cases hd : m.down = true
  · exact append_down w B R D m h a n c ys hd
  · have hd' : m.down = false := by simpa using hd
    by_cases hr : m.cap - m.xs.length < n
    · exact append_full w B R D m h a n c ys hs.1 hd' hr (by omega)
    · exact append_fits w B R D m h hB a n c ys hs h3 hd' (by omega)

theorem append_st {w W : World} {R : Nat} {m : M} (h : St w R m W) {a : Option Addr} {n c : Nat} {ys : List Int} (hs : Src W a n ys) (hf : Fits a n c) :
    Calls Try.prog 18 #[.pointer (some ⟨R, 0, none⟩), .slice a n c] W fun e W' => e = .returned (.int .i64 (m.append ys).1) ∧ St w R (m.append ys).2 W' := by
  obtain ⟨D, h1, h2⟩ := h
  exact (append_all W _ R D m h1 h2.size a n c ys hs hf).mono (fun e W' ha => St.after h1 h2 ha)
theorem sync_st {w W : World} {R : Nat} {m : M} (h : St w R m W) :
    Calls Try.prog 19 #[.pointer (some ⟨R, 0, none⟩)] W fun e W' => e = .returned (.int .i64 m.sync.1) ∧ St w R m.sync.2 W' := by
  obtain ⟨D, h1, h2⟩ := h
  exact (sync_any W _ R D m h1).mono (fun e W' ha => St.after h1 h2 ha)
theorem cut_st {w W : World} {R : Nat} {m : M} (h : St w R m W) (n : Int) :
    Calls Try.prog 21 #[.pointer (some ⟨R, 0, none⟩), .int .i64 n] W fun e W' => e = .returned (.int .i64 (m.cut n).1) ∧ St w R (m.cut n).2 W' := by
  obtain ⟨D, h1, h2⟩ := h
  exact (cut_any W _ R D m h1 n).mono (fun e W' ha => St.after h1 h2 ha)
theorem arm_st {w W : World} {R : Nat} {m : M} (h : St w R m W) (n : Int) (hn : n ≤ 9223372036854775807) :
    Calls Try.prog 20 #[.pointer (some ⟨R, 0, none⟩), .int .i64 n] W fun e W' => e = .returned (.tuple #[]) ∧ St w R (m.arm n) W' := by
  obtain ⟨D, h1, h2⟩ := h
  refine (arm_any W _ R D m h1 n hn).mono ?_
  rintro e W' ⟨he, hr, hk⟩
  exact ⟨he, D, hr, h2.own hk (fun i e => by rw [e]; exact h1.at_)⟩
theorem size_st {w W : World} {R : Nat} {m : M} (h : St w R m W) :
    Calls Try.prog 11 #[.pointer (some ⟨R, 0, none⟩)] W fun e W' => e = .returned (.int .i64 m.xs.length) ∧ W = W' := by
  obtain ⟨D, h1, h2⟩ := h
  exact size_any W _ R D m h1
theorem safe_st {w W : World} {R : Nat} {m : M} (h : St w R m W) :
    Calls Try.prog 12 #[.pointer (some ⟨R, 0, none⟩)] W fun e W' => e = .returned (.int .i64 m.safe) ∧ W = W' := by
  obtain ⟨D, h1, h2⟩ := h
  exact safe_any W _ R D m h1
theorem down_st {w W : World} {R : Nat} {m : M} (h : St w R m W) :
    Calls Try.prog 13 #[.pointer (some ⟨R, 0, none⟩)] W fun e W' => e = .returned (.bool m.down) ∧ W = W' := by
  obtain ⟨D, h1, h2⟩ := h
  exact down_any W _ R D m h1
theorem new_st {w W : World} (hk : Keeps (fun _ => False) w W) (cap : Int) (h0 : 0 ≤ cap) (h1 : cap ≤ 16777216) :
    Calls Try.prog 9 #[.int .i64 cap] W fun e W' => e = .returned (.pointer (some ⟨W.heap.size, 0, none⟩)) ∧ St w W.heap.size (M.new cap) W' := by
  refine (new_yes cap W w.heap.size hk.size h0 h1).mono ?_
  rintro e W' ⟨he, hr, _, hk'⟩
  exact ⟨he, none, hr, hk.own hk' (fun _ h => h.elim)⟩
theorem clone_st {w W : World} {R : Nat} {m : M} (h : St w R m W) :
    Calls Try.prog 14 #[.pointer (some ⟨R, 0, none⟩)] W fun e W' => e = .returned (.pointer (some ⟨W.heap.size, 0, none⟩)) ∧ Keeps (fun _ => False) W W' ∧ ∃ D, Reel W w.heap.size R D m ∧ Reel W' w.heap.size R D m ∧ Reel W' w.heap.size W.heap.size (some (W.heap.size + 1)) m ∧ Keeps (fun _ => False) w W' := by
  obtain ⟨D, h1, h2⟩ := h
  refine (clone_any W _ R D m h1 h2.size).mono ?_
  rintro e W' ⟨he, hr, hk⟩
  exact ⟨he, hk, D, h1, h1.keeps hk (fun h => h) (fun _ _ h => h), hr, h2.own hk (fun _ h => h.elim)⟩

/-- Read of what there is. -/
theorem read_st {w W : World} {R : Nat} {m : M} (h : St w R m W) (hd : m.down = false) (at_ n : Nat) (hr : at_ + n ≤ m.xs.length) :
    Calls Try.prog 16 #[.pointer (some ⟨R, 0, none⟩), .int .i64 at_, .int .i64 n] W fun e W' => e = .returned (.tuple #[.slice (some ⟨W.heap.size, 0, none⟩) n n, .int .i64 0]) ∧
      St w R m W' ∧ Src W' (some ⟨W.heap.size, 0, none⟩) n ((m.xs.drop at_).take n) := by
  have h0 := h
  obtain ⟨D, h1, h2⟩ := h
  refine (read_ok W _ R D m h1 at_ n hd hr).mono ?_
  rintro e W' ⟨he, hh, hb⟩
  refine ⟨he, h0.below hb, by simp; omega, fun y hy => h1.ok.byte y (List.mem_of_mem_drop (List.mem_of_mem_take hy)), Or.inr ⟨_, rfl, ?_⟩⟩
  have k := cell_at (at_ := 0) (n := ((m.xs.drop at_).take n).length) (len := ((m.xs.drop at_).take n).length) (xs := (m.xs.drop at_).take n) hh (by rw [List.take_of_length_le (by simp)])
  rw [List.drop_zero, List.take_of_length_le (Nat.le_refl _)] at k
  exact k

/-- Crash with bytes that aren't the reel's own. -/
theorem crash_st {w W : World} {R : Nat} {m : M} (h : St w R m W) (keep : Int) {a : Option Addr} {n c : Nat} {gs : List Int} (hs : Src W a n gs) (hf : Fits a n c) (ha : 0 < n → ∀ ad, a = some ad → ad.block < w.heap.size) :
    Calls Try.prog 15 #[.pointer (some ⟨R, 0, none⟩), .int .i64 keep, .slice a n c] W fun e W' => e = .returned (.tuple #[]) ∧ St w R (m.crash keep gs) W' := by
  obtain ⟨D, h1, h2⟩ := h
  refine (crash_any W _ R D m h1 keep a n c gs hs ?_ hf.1 hf.2.1 hf.2.2).mono ?_
  · intro hp ad e
    have := ha hp ad e
    refine ⟨fun e2 => ?_, fun e2 => ?_⟩
    · have := (h1.data_lt e2.symm).1; omega
    · have := h1.at_; omega
  · rintro e W' ⟨he, hr, hk⟩
    refine ⟨he, D, hr, h2.own hk ?_⟩
    rintro i (e | e)
    · rw [e]; exact h1.at_
    · exact (h1.data_lt e.symm).1

/-- Crash with bytes laid just ahead. -/
theorem crash_lit {w W : World} {R : Nat} {m : M} (h : St w R m W) (keep : Int) {n c : Nat} {gs : List Int} (o : Obj) (hs : Src (W.alloc o) (some ⟨W.heap.size, 0, none⟩) n gs) (hf : Fits (some ⟨W.heap.size, 0, none⟩) n c) :
    Calls Try.prog 15 #[.pointer (some ⟨R, 0, none⟩), .int .i64 keep, .slice (some ⟨W.heap.size, 0, none⟩) n c] (W.alloc o) fun e W' => e = .returned (.tuple #[]) ∧ St w R (m.crash keep gs) W' := by
  obtain ⟨D, h1, h2⟩ := h
  have h1' : Reel (W.alloc o) w.heap.size R D m := h1.kept (Below.heap_alloc _ _ _ h1.lt) (fun k e => Below.heap_alloc _ _ _ (h1.data_lt e).2)
  refine (crash_any (W.alloc o) _ R D m h1' keep _ n c gs hs ?_ hf.1 hf.2.1 hf.2.2).mono ?_
  · intro _ ad e
    cases e
    refine ⟨fun e2 => ?_, fun e2 => ?_⟩
    · have := (h1.data_lt e2.symm).2; simp only at this; omega
    · have := h1.lt; simp only at e2; omega
  · rintro e W' ⟨he, hr, hk⟩
    refine ⟨he, D, hr, (h2.alloc o).own hk ?_⟩
    rintro i (e | e)
    · rw [e]; exact h1.at_
    · exact (h1.data_lt e.symm).1

/-- A literal's bytes, just laid. -/
theorem Src.lit (W : World) (ys : List Int) (hy : ∀ y ∈ ys, 0 ≤ y ∧ y ≤ 255) (f : Nat × Nat) : Src (W.alloc (.cells (ys.map (Value.int .u8)).toArray 5 f)) (some ⟨W.heap.size, 0, none⟩) ys.length ys := by
  refine ⟨rfl, hy, Or.inr ⟨_, rfl, fun j u hj => ?_⟩⟩
  have h3 : ((⟨W.heap.size, 0, none⟩ : Addr).add j) = ⟨W.heap.size, j, none⟩ := by
    unfold Addr.add
    split
    · rename_i h; subst h; rfl
    · simp
  rw [h3, World.cell?_alloc_mark]
  simpa using hj

theorem conv_src {w : World} {a : Option Addr} {n : Nat} {ys : List Int} (h : Src w a n ys) (c : Nat) : (convert 27 9 (.slice a n c)).run Try.prog w = .ok (.string (strOfNums ys)) w := by
  obtain ⟨h1, _, h2⟩ := h
  rcases h2 with ⟨rfl, rfl⟩ | ⟨ad, rfl, hc⟩
  · have : ys = [] := List.eq_nil_of_length_eq_zero h1
    subst this
    exact run_convert_bytes_nil w 27 5 Try.underlying27 Try.underlying5 0 c 9 Try.underlying9
  · by_cases h0 : n = 0
    · subst h0
      have : ys = [] := List.eq_nil_of_length_eq_zero h1
      subst this
      rw [run_convert_bytes_string w 27 9 5 _ 0 c Try.underlying27 Try.underlying5 Try.underlying9]
      have hl := run_loadCells_list (P := Try.prog) w ad ([].map (Value.int .u8)) (fun j v hj => by simp at hj)
      rw [run_bytesToString w ad 0 c _ hl]
      rfl
    · obtain ⟨b, off, spot⟩ := ad
      have hsp : spot = none := by
        have e1 : ys[0]? = some (ys[0]'(by omega)) := List.getElem?_eq_getElem (by omega)
        have e2 := hc 0 _ (by rw [List.getElem?_map, e1]; rfl)
        simpa [Addr.add] using World.cell?_spot e2
      subst hsp
      refine run_convert_bytes_arg w 27 5 Try.underlying27 Try.underlying5 b off n c ys h1 (fun i hi => ?_) 9 Try.underlying9
      have e1 : ys[i]? = some (ys[i]'(by omega)) := List.getElem?_eq_getElem (by omega)
      have e2 := hc i (.int .u8 (ys[i]'(by omega))) (by rw [List.getElem?_map, e1]; rfl)
      have h3 : ((⟨b, off, none⟩ : Addr).add i) = ⟨b, off + i, none⟩ := by
        unfold Addr.add
        split
        · rename_i h; subst h; rfl
        · rfl
      rw [h3] at e2
      rw [e2, List.getD_eq_getElem?_getD, e1]
      rfl
end Go.Proofs.Ytccfjpjhkaicgaa
