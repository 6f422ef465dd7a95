/- The document's reel as the law keeps it beside the program's: what memory holds of it, and how its calls are counted down. -/
import Derived.Test.YtccfjpjhkaicgaaN
import Derived.Deep.RegionHeld3
import Derived.Deep.AppendLies
namespace Go.Proofs.Ytccfjpjhkaicgaa
open Go.RowKit

def headOf (E : Option Nat) : Option Addr := E.map (fun g => ⟨g, 0, none⟩)

/-- The document's reel at block T; its bytes lie in block E; both from B on. -/
structure Twin (w : World) (B T : Nat) (E : Option Nat) (m : M) : Prop where
  ok : m.Ok
  at_ : B ≤ T
  holds : ∃ c l, w.heap[T]? = some (.cells #[.slice (headOf E) m.xs.length c, .int .i64 m.cap, .int .i64 m.safe, .int .i64 l, .bool (decide (0 ≤ m.left)), .bool m.down] 29 (0, 0)) ∧
    (0 ≤ m.left → l = m.left) ∧ Src w (headOf E) m.xs.length m.xs ∧ Fits (headOf E) m.xs.length c
  own : ∀ k, E = some k → B ≤ k ∧ k < w.heap.size
  apart : E ≠ some T

theorem Twin.lt {w : World} {B T : Nat} {E : Option Nat} {m : M} (h : Twin w B T E m) : T < w.heap.size := by
  obtain ⟨c, l, hb, _⟩ := h.holds
  exact lt_of_block hb

theorem Twin.kept {w w' : World} {B T : Nat} {E : Option Nat} {m : M} (h : Twin w B T E m) (hsz : w.heap.size ≤ w'.heap.size) (hT : w'.heap[T]? = w.heap[T]?) (hE : ∀ k, E = some k → w'.heap[k]? = w.heap[k]?) : Twin w' B T E m := by
  obtain ⟨c, l, hb, hl, hs, hf⟩ := h.holds
  refine ⟨h.ok, h.at_, ⟨c, l, hT.trans hb, hl, ?_, hf⟩, fun k e => ⟨(h.own k e).1, Nat.lt_of_lt_of_le (h.own k e).2 hsz⟩, h.apart⟩
  obtain ⟨h1, h2, h3⟩ := hs
  refine ⟨h1, h2, ?_⟩
  rcases h3 with h3 | ⟨ad, ha, hc⟩
  · exact Or.inl h3
  · refine Or.inr ⟨ad, ha, fun j u hj => ?_⟩
    have hcell := hc j u hj
    rw [← hcell]
    refine World.cell?_of_block (w := w) (hE _ ?_)
    cases E with
    | none => cases ha
    | some g =>
      cases ha
      unfold Addr.add
      split <;> rfl
theorem Twin.keeps {S : Nat → Prop} {w w' : World} {B T : Nat} {E : Option Nat} {m : M} (h : Twin w B T E m) (hk : Keeps S w w') (hT : ¬ S T) (hE : ∀ k, E = some k → ¬ S k) : Twin w' B T E m :=
  h.kept hk.size (hk.block T h.lt hT) (fun k e => hk.block k (h.own k e).2 (hE k e))

theorem twin_cells {w : World} {R : Nat} {a b c d e f : Value} {t : TypeId} (h : w.heap[R]? = some (.cells #[a, b, c, d, e, f] t (0, 0))) :
    w.cell? ⟨R, 0, none⟩ = some a ∧ w.cell? ⟨R, 1, none⟩ = some b ∧ w.cell? ⟨R, 2, none⟩ = some c ∧ w.cell? ⟨R, 3, none⟩ = some d ∧ w.cell? ⟨R, 4, none⟩ = some e ∧ w.cell? ⟨R, 5, none⟩ = some f := by
  simp [World.cell?, h]

theorem Src.setOther {w : World} {a : Option Addr} {n : Nat} {ys : List Int} (h : Src w a n ys) {p : Addr} (hp : ∀ ad, a = some ad → ad.block ≠ p.block) (u : Value) : Src (w.setCell p u) a n ys := by
  obtain ⟨h1, h2, h3⟩ := h
  refine ⟨h1, h2, ?_⟩
  rcases h3 with h3 | ⟨ad, ha, hc⟩
  · exact Or.inl h3
  · refine Or.inr ⟨ad, ha, fun j v hj => ?_⟩
    rw [← hc j v hj]
    have hblk : (ad.add j).block = ad.block := by unfold Addr.add; split <;> rfl
    exact World.cell?_of_block (w := w) (Below.heap_setCell _ _ _ _ (by rw [hblk]; exact hp ad ha))

/-- One cell of the document's reel set (not its bytes). -/
theorem Twin.set {w : World} {B T : Nat} {E : Option Nat} {m m' : M} {i : Nat} {u : Value} (h : Twin w B T E m) (ok : m'.Ok) (hx : m'.xs = m.xs) (g : Int → Int)
    (hc : ∀ (c : Nat) (l : Int), (0 ≤ m.left → l = m.left) → (0 ≤ m'.left → g l = m'.left) ∧ (#[.slice (headOf E) m.xs.length c, .int .i64 m.cap, .int .i64 m.safe, .int .i64 l, .bool (decide (0 ≤ m.left)), .bool m.down] : Array Value).setIfInBounds i u = #[.slice (headOf E) m'.xs.length c, .int .i64 m'.cap, .int .i64 m'.safe, .int .i64 (g l), .bool (decide (0 ≤ m'.left)), .bool m'.down]) :
    Twin (w.setCell ⟨T, i, none⟩ u) B T E m' := by
  obtain ⟨c, l, hb, hl, hs, hf⟩ := h.holds
  refine ⟨ok, h.at_, ⟨c, g l, ?_, (hc c l hl).1, ?_, by rw [hx]; exact hf⟩, fun k e => by simpa [World.setCell] using h.own k e, h.apart⟩
  · rw [block_set hb, (hc c l hl).2]
  · rw [hx]
    refine hs.setOther ?_ u
    intro ad ha
    cases E with
    | none => cases ha
    | some k =>
      cases ha
      intro e
      exact h.apart (by rw [show k = T from e])

theorem Keeps.one (w : World) (T i : Nat) (u : Value) : Keeps (fun k => k = T) w (w.setCell ⟨T, i, none⟩ u) := (Keeps.refl (fun k => k = T) w).setCell (p := ⟨T, i, none⟩) (fun _ => rfl) u

/-- Behind a call of the document's reel that is counted down. -/
def Gone (w : World) (B T : Nat) (E : Option Nat) (m : M) (e : Ending) (w' : World) : Prop :=
  e = .returned (.bool (decide (m.left ≠ 0))) ∧ Twin w' B T E m.spend.2 ∧ Keeps (fun k => k = T) w w'

theorem goes_any (w : World) (B T : Nat) (E : Option Nat) (m : M) (h : Twin w B T E m) (hd : m.down = false) :
    Calls Try.prog 22 #[.pointer (some ⟨T, 0, none⟩)] w (Gone w B T E m) := by
  obtain ⟨c, l, hb, hl, hs, hf⟩ := h.holds
  obtain ⟨h0, h1, h2, h3, h4, h5⟩ := twin_cells hb
  have f3 := reel_free hb 3
  have f5 := reel_free hb 5
  have ok := h.ok
  have ok1 := ok.left1
  by_cases c0 : m.left < 0
  · rw [show decide (0 ≤ m.left) = false by simpa using c0] at h4
    have X := Lib.hid (show Gone w B T E m (.returned (.bool true)) w by
      have e : m.spend = (0, m) := by unfold M.spend; rw [if_neg (by omega), if_neg (by omega)]
      unfold Gone
      rw [e, show decide (m.left ≠ 0) = true by simp; omega]
      exact ⟨rfl, h, Keeps.refl _ _⟩)
    clear h0 h1 h2 h5 hl hs hf hb h ok hd c0
    go_enter Try.func22, Try.ntmps22
    go_wp2
    go_ret
    exact X.out
  · have hl' := hl (by omega)
    subst hl'
    rw [show decide (0 ≤ m.left) = true by simp; omega] at h4
    by_cases c1 : m.left = 0
    · rw [c1] at h3
      have X := Lib.hid (show Gone w B T E m (.returned (.bool false)) (w.setCell ⟨T, 5, none⟩ (.bool true)) by
        have e : m.spend = (11, { m with down := true }) := by unfold M.spend; rw [if_pos c1]
        unfold Gone
        rw [e, show decide (m.left ≠ 0) = false by simp; exact c1]
        exact ⟨rfl, h.set ⟨ok.cap0, ok.cap1, ok.len, ok.safe0, ok.safe1, ok.left0, ok.left1, ok.byte⟩ rfl id (by intro c l hl; exact ⟨hl, by simp⟩), Keeps.one _ _ _ _⟩)
      clear h0 h1 h2 hl hs hf hb h ok hd c0 c1
      go_enter Try.func22, Try.ntmps22
      go_wp2
      go_ret
      exact X.out
    · have hb0 : (m.left == 0) = false := by simpa using c1
      have X := Lib.hid (show Gone w B T E m (.returned (.bool true)) (w.setCell ⟨T, 3, none⟩ (.int .i64 (m.left - 1))) by
        have e : m.spend = (0, { m with left := m.left - 1 }) := by unfold M.spend; rw [if_neg c1, if_pos (by omega)]
        unfold Gone
        rw [e, show decide (m.left ≠ 0) = true by simp; exact c1]
        refine ⟨rfl, h.set ⟨ok.cap0, ok.cap1, ok.len, ok.safe0, ok.safe1, by simp only; omega, by have := ok.left1; simp only; omega, ok.byte⟩ rfl (fun l => m.left - 1) (by
          intro c l hl
          refine ⟨fun _ => rfl, ?_⟩
          have e1 : decide (0 ≤ m.left) = decide (0 ≤ m.left - 1) := by rw [decide_eq_decide]; omega
          simp [e1]), Keeps.one _ _ _ _⟩)
      have hpos : 0 ≤ m.left := by omega
      clear h0 h1 h2 h5 hl hs hf hb h ok hd c0 c1
      go_enter Try.func22, Try.ntmps22
      go_wp2
      go_ret
      exact X.out

theorem run_append_src {w : World} (ty base g0 n cap0 : Nat) (xs : List Int) (hown : w.ownsRow base 5 1 (.slice (some ⟨g0, 0, none⟩) n cap0) n (xs.map (Value.int .u8)))
    (ad : Option Addr) (m c : Nat) (ys : List Int) (hsrc : Src w ad m ys) (hc : ad = none → c = 0) (hb : n + m ≤ 33554432) (hbase : base ≤ w.heap.size) :
    ∃ g cap w', (Builtin.append_ #[27, 27] ty #[.slice (some ⟨g0, 0, none⟩) n cap0, .slice ad m c]).run Try.prog w = .ok (.slice (some ⟨g, 0, none⟩) (n + m) cap) w' ∧
      w'.ownsRow base 5 1 (.slice (some ⟨g, 0, none⟩) (n + m) cap) (n + m) ((xs ++ ys).map (Value.int .u8)) ∧ w.grownBy w' (some g0) ∧ (g = g0 ∨ g = w.heap.size) := by
  obtain ⟨i0, hi, hz0, hz1, hz2⟩ := info_parts info5
  obtain ⟨hn, hby, h3⟩ := hsrc
  rcases h3 with ⟨rfl, rfl⟩ | ⟨a, rfl, hcells⟩
  · obtain rfl := hc rfl
    obtain rfl : ys = [] := List.eq_nil_of_length_eq_zero hn
    refine ⟨g0, cap0, w, run_append_owned_none (P := Try.prog) (w := w) base 27 ty 5 i0 1 Try.underlying27 hi _ _ _ hown, by simpa using hown, ⟨rfl, rfl, rfl, Nat.le_refl _, fun _ _ _ => rfl⟩, Or.inl rfl⟩
  · obtain ⟨v', w', hr, h1, h2, h4, h5⟩ := run_append_own_at (P := Try.prog) w base 27 ty 5 i0 (.int .u8 0) 1 1 Try.underlying27 hi hz0 hz1 hz2 rfl (by decide) _ n _ hown a m c (ys.map (Value.int .u8)) (by simpa using hn) hcells
      (by intro u hu; simp only [List.mem_map] at hu; obtain ⟨y, _, rfl⟩ := hu; rfl) (by unfold maxLen; omega) (by omega) hbase
    rcases h1.2 with ⟨e, _⟩ | ⟨g, cap, _, e, _⟩
    · have := (h4.1 e).1
      cases this
    · subst e
      refine ⟨g, cap, w', hr, by rw [List.map_append]; exact h1, h2, ?_⟩
      rcases h5 with e | e
      · left; simpa [Value.ownBlock] using e
      · right; simpa [Value.ownBlock] using e

theorem wp_append_src {w : World} {o : Oper} {a : Act} {K : Act → World → Prop} {Q : Exit → Act → World → Prop} (s x : Operand) (ho : o.op = .call { callee := .builtin .append, args := #[s, x], argTypes := #[27, 27] })
    (base g0 n cap0 : Nat) (xs : List Int) (hs : a.eval s = .slice (some ⟨g0, 0, none⟩) n cap0) (hown : w.ownsRow base 5 1 (.slice (some ⟨g0, 0, none⟩) n cap0) n (xs.map (Value.int .u8)))
    (ad : Option Addr) (m c : Nat) (ys : List Int) (hx : a.eval x = .slice ad m c) (hsrc : Src w ad m ys) (hc : ad = none → c = 0) (hb : n + m ≤ 33554432) (hbase : base ≤ w.heap.size)
    (h : ∀ g cap w', w'.ownsRow base 5 1 (.slice (some ⟨g, 0, none⟩) (n + m) cap) (n + m) ((xs ++ ys).map (Value.int .u8)) → w.grownBy w' (some g0) → (g = g0 ∨ g = w.heap.size) → K (a.put o.dst (.slice (some ⟨g, 0, none⟩) (n + m) cap)) w') : o.wp Try.prog a w K Q := by
  obtain ⟨g, cap, w', hr, h1, h2, h3⟩ := run_append_src o.type base g0 n cap0 xs hown ad m c ys hsrc hc hb hbase
  unfold Oper.wp execOp
  simp only [ho, resolve, invoke, builtin, Sem.run_bind, Sem.run_pure, Result.andThen_ok, List.map_toArray, List.map_cons, List.map_nil, hs, hx, hr]
  exact h g cap w' h1 h2 h3

theorem wpList_append_src {w : World} {ops : Array Oper} {rest : List Oper} {o : Oper} {a : Act} {Q : Exit → Act → World → Prop} (hgd : o.guard = none) (s x : Operand) (ho : o.op = .call { callee := .builtin .append, args := #[s, x], argTypes := #[27, 27] })
    (base g0 n cap0 : Nat) (xs : List Int) (hs : a.eval s = .slice (some ⟨g0, 0, none⟩) n cap0) (hown : w.ownsRow base 5 1 (.slice (some ⟨g0, 0, none⟩) n cap0) n (xs.map (Value.int .u8)))
    (ad : Option Addr) (m c : Nat) (ys : List Int) (hx : a.eval x = .slice ad m c) (hsrc : Src w ad m ys) (hc : ad = none → c = 0) (hb : n + m ≤ 33554432) (hbase : base ≤ w.heap.size)
    (h : ∀ g cap w', w'.ownsRow base 5 1 (.slice (some ⟨g, 0, none⟩) (n + m) cap) (n + m) ((xs ++ ys).map (Value.int .u8)) → w.grownBy w' (some g0) → (g = g0 ∨ g = w.heap.size) → wpList Try.prog ops Q rest (a.put o.dst (.slice (some ⟨g, 0, none⟩) (n + m) cap)) w') : wpList Try.prog ops Q (o :: rest) a w :=
  wpList_plain hgd fun _ hK => wp_append_src s x ho base g0 n cap0 xs hs hown ad m c ys hx hsrc hc hb hbase fun g cap w' h1 h2 h3 => hK _ _ (h g cap w' h1 h2 h3)

theorem step_append_src {w : World} {ops : Array Oper} {o : Oper} {a : Act} {K : Act → World → Prop} {Q : Exit → Act → World → Prop} {E : Prop} (hgd : o.guard = none) (s x : Operand) (ho : o.op = .call { callee := .builtin .append, args := #[s, x], argTypes := #[27, 27] })
    (base g0 n cap0 : Nat) (xs : List Int) (hs : a.eval s = .slice (some ⟨g0, 0, none⟩) n cap0) (hown : w.ownsRow base 5 1 (.slice (some ⟨g0, 0, none⟩) n cap0) n (xs.map (Value.int .u8)))
    (ad : Option Addr) (m c : Nat) (ys : List Int) (hx : a.eval x = .slice ad m c) (hsrc : Src w ad m ys) (hc : ad = none → c = 0) (hb : n + m ≤ 33554432) (hbase : base ≤ w.heap.size)
    (h : ∀ g cap w', w'.ownsRow base 5 1 (.slice (some ⟨g, 0, none⟩) (n + m) cap) (n + m) ((xs ++ ys).map (Value.int .u8)) → w.grownBy w' (some g0) → (g = g0 ∨ g = w.heap.size) → K (a.put o.dst (.slice (some ⟨g, 0, none⟩) (n + m) cap)) w') :
    if Region.wanted o (yielded ops a.tmps) = true then Oper.wp Try.prog o a w K Q else E := by
  have hw : Region.wanted o (yielded ops a.tmps) = true := by simp [Region.wanted, hgd]
  rw [if_pos hw]
  exact wp_append_src s x ho base g0 n cap0 xs hs hown ad m c ys hx hsrc hc hb hbase h
end Go.Proofs.Ytccfjpjhkaicgaa
