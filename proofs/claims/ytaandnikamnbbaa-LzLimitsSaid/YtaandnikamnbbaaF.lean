/- Tokens as cells; append of one; the document's examples. -/
import Derived.Test.YtaandnikamnbbaaE
namespace Go.Proofs.Ytaandnikamnbbaa
open Go.RowKit
set_option linter.unusedVariables false

/-- Tokens as cells. -/
def tokv (t : Tok) : List Value := [.int .i64 t.L, .int .i64 t.D, .int .u8 (t.X : Nat)]
def tokvs : List Tok → List Value
  | [] => []
  | t :: ts => tokv t ++ tokvs ts
theorem tokvs_cons (t : Tok) (ts : List Tok) : tokvs (t :: ts) = tokv t ++ tokvs ts := rfl
theorem tokvs_length (ts : List Tok) : (tokvs ts).length = ts.length * 3 := by
  induction ts with
  | nil => rfl
  | cons t ts ih => rw [tokvs_cons, List.length_append, ih, List.length_cons]; simp [tokv]; omega
theorem tokvs_append (ts us : List Tok) : tokvs (ts ++ us) = tokvs ts ++ tokvs us := by
  induction ts with
  | nil => rfl
  | cons t ts ih => rw [List.cons_append, tokvs_cons, tokvs_cons, ih, List.append_assoc]
theorem tokvs_at {ts : List Tok} {i : Nat} {t : Tok} (h : ts[i]? = some t) (r : Nat) (hr : r < 3) : (tokvs ts)[i * 3 + r]? = (tokv t)[r]? := by
  induction ts generalizing i with
  | nil => simp at h
  | cons u ts ih =>
    rw [tokvs_cons]
    cases i with
    | zero =>
      simp only [List.getElem?_cons_zero, Option.some.injEq] at h
      subst h
      rw [Nat.zero_mul, Nat.zero_add, List.getElem?_append_left (by simp [tokv]; omega)]
    | succ i =>
      rw [List.getElem?_cons_succ] at h
      rw [List.getElem?_append_right (by simp [tokv]; omega), ← ih h]
      congr 1
      simp [tokv]
      omega
/-- Cells that hold tokens. -/
theorem toks_cells {w : World} {g : Nat} {cs : Array Value} {ty : TypeId} {fr : Nat × Nat} {ts : List Tok} {m : Nat} (hh : w.heap[g]? = some (.cells cs ty fr)) (hc : cs.toList.take m = tokvs ts) (hf : ∀ t ∈ ts, Fits t) : Toks w (some ⟨g, 0, none⟩) ts.length ts := by
  refine ⟨rfl, hf, fun _ => ⟨g, 0, rfl, fun i t ht => ?_⟩⟩
  have key : ∀ r, r < 3 → ∀ v, (tokv t)[r]? = some v → w.cell? ⟨g, 0 + i * 3 + r, none⟩ = some v := by
    intro r hr v hv
    rw [← tokvs_at ht r hr, ← hc] at hv
    have hm : i * 3 + r < m := by
      have := (List.getElem?_eq_some_iff.1 hv).1
      rw [List.length_take] at this
      omega
    rw [List.getElem?_take_of_lt hm] at hv
    have hv2 : cs[i * 3 + r]? = some v := by simpa using hv
    simp [World.cell?, hh, hv2]
  exact ⟨key 0 (by omega) _ rfl, key 1 (by omega) _ rfl, key 2 (by omega) _ rfl⟩
theorem toks_lit (w : World) (cs : Array Value) (ts : List Tok) (hc : cs.toList = tokvs ts) (hf : ∀ t ∈ ts, Fits t) : Toks (w.alloc (.cells cs 27)) (some ⟨w.heap.size, 0, none⟩) ts.length ts :=
  toks_cells (m := cs.toList.length) (heap_alloc_new _ _) (by rw [List.take_length]; exact hc) hf
/-- Tokens of the call's own, read. -/
theorem toks_own {w : World} {B c n : Nat} {aa : Option Addr} {ts : List Tok} (h : w.ownsRow B 27 3 (.slice aa n c) n (tokvs ts)) (hf : ∀ t ∈ ts, Fits t) : Toks w aa n ts ∧ ts.length = n ∧ ∀ x, aa = some x → B ≤ x.block := by
  obtain ⟨hl, h2⟩ := h
  rw [tokvs_length] at hl
  have hl2 : ts.length = n := by omega
  subst hl2
  rcases h2 with ⟨e, e2⟩ | ⟨g, cap, cur, e, hB, hh, p1, p2, p3, p4⟩
  · have : ts = [] := List.eq_nil_of_length_eq_zero e2
    subst this
    cases e
    exact ⟨⟨rfl, fun t ht => (by cases ht), fun hp => absurd hp (by simp)⟩, rfl, fun x hx => by cases hx⟩
  · cases e
    exact ⟨toks_cells hh p4 hf, rfl, fun x hx => by cases hx; exact hB⟩

theorem run_append_tok (w : World) (ty : TypeId) (base n : Nat) (v : Value) (ts : List Tok) (t : Tok) (hown : w.ownsRow base 27 3 v n (tokvs ts)) (g c : Nat) (h0 : OneTok w g 0 t) (hn : n ≤ 16777216) (hbase : base ≤ w.heap.size) :
    ∃ aa cap w', (Builtin.append_ #[22, 22] ty #[v, .slice (some ⟨g, 0, none⟩) 1 c]).run Try.prog w = .ok (.slice aa (n + 1) cap) w' ∧
      w'.ownsRow base 27 3 (.slice aa (n + 1) cap) (n + 1) (tokvs (ts ++ [t])) ∧ w.grownBy w' v.ownBlock ∧ ((Value.slice aa (n + 1) cap).ownBlock = v.ownBlock ∨ (Value.slice aa (n + 1) cap).ownBlock = some w.heap.size) := by
  obtain ⟨i0, hi, hz0, hz1, hz2⟩ := info_parts info27
  obtain ⟨c0, c1, c2⟩ := h0
  obtain ⟨v', w', hr, k1, k2, k4, k5⟩ := run_append_own_at (P := Try.prog) w base 22 ty 27 i0 (.agg #[.int .i64 0, .int .i64 0, .int .u8 0]) 3 24 Try.underlying22 hi hz0 hz1 hz2 rfl (by decide) v n _ hown ⟨g, 0, none⟩ 1 c (tokv t) rfl
    (by
      intro j u hj
      rw [add_spot]
      match j, hj with
      | 0, hj => cases hj; exact c0
      | 1, hj => cases hj; exact c1
      | 2, hj => cases hj; exact c2
      | j + 3, hj => simp [tokv] at hj)
    (by intro u hu; simp only [tokv, List.mem_cons, List.not_mem_nil, or_false] at hu; rcases hu with rfl | rfl | rfl <;> rfl) (by unfold maxLen; omega) (by omega) hbase
  have hv : ∃ aa cap, v' = .slice aa (n + 1) cap := by
    rcases k1.2 with ⟨e, e2⟩ | ⟨g, cap, _, e, _⟩
    · omega
    · exact ⟨_, _, e⟩
  obtain ⟨aa, cap, rfl⟩ := hv
  have e : tokvs ts ++ tokv t = tokvs (ts ++ [t]) := by rw [tokvs_append]; simp [tokvs]
  rw [e] at k1
  exact ⟨aa, cap, w', hr, k1, k2, k5⟩
theorem wpList_append_tok {w : World} {ops : Array Oper} {rest : List Oper} {o : Oper} {a : Act} {Q : Exit → Act → World → Prop} (hgd : o.guard = none) (s x : Operand) (ho : o.op = .call { callee := .builtin .append, args := #[s, x], argTypes := #[22, 22] })
    (base n : Nat) (v : Value) (ts : List Tok) (t : Tok) (hs : a.eval s = v) (hown : w.ownsRow base 27 3 v n (tokvs ts)) (g c : Nat) (hx : a.eval x = .slice (some ⟨g, 0, none⟩) 1 c) (h0 : OneTok w g 0 t) (hn : n ≤ 16777216) (hbase : base ≤ w.heap.size)
    (h : ∀ aa cap w', w'.ownsRow base 27 3 (.slice aa (n + 1) cap) (n + 1) (tokvs (ts ++ [t])) → w.grownBy w' v.ownBlock → ((Value.slice aa (n + 1) cap).ownBlock = v.ownBlock ∨ (Value.slice aa (n + 1) cap).ownBlock = some w.heap.size) → wpList Try.prog ops Q rest (a.put o.dst (.slice aa (n + 1) cap)) w') :
    wpList Try.prog ops Q (o :: rest) a w := by
  refine wpList_plain hgd fun K hK => ?_
  obtain ⟨aa, cap, w', hr, k1, k2, k3⟩ := run_append_tok w o.type base n v ts t hown g c h0 hn hbase
  unfold Oper.wp execOp
  simp only [ho, resolve, invoke, builtin, Sem.run_bind, Sem.run_pure, Result.andThen_ok, List.map_toArray, List.map_cons, List.map_nil, hs, hx, hr]
  exact hK _ _ (h aa cap w' k1 k2 k3)
theorem one_tok (w : World) (t : Tok) : OneTok (w.alloc (.cells #[.int .i64 t.L, .int .i64 t.D, .int .u8 (t.X : Nat)] 27)) w.heap.size 0 t := by
  refine ⟨?_, ?_, ?_⟩ <;> (rw [World.cell?_alloc_mark]; rfl)

/-- A law's end: true, and the old memory as it was. -/
def Yes (w : World) (e : Ending) (w' : World) : Prop := e = .returned (.bool true) ∧ Below w.heap.size w w'
theorem Grow.arg {w w' : World} {out : List Nat} {aa : Option Addr} {c : Nat} (h : Grow w (.slice aa out.length c) out w') : Arg w' aa out.length c out := bytes_of_own h.own h.byte
def ex1 : List Tok := [⟨0, 0, 97⟩, ⟨0, 0, 98⟩, ⟨4, 2, 0⟩]
def ex2 : List Tok := [⟨3, 1, 0⟩]
theorem ex1_brings : brings 100 [] ex1 = (0, [97, 98, 97, 98, 97, 98]) := by decide +kernel
theorem ex2_brings : brings 100 [] ex2 = (22, []) := by decide +kernel
theorem ex1_fits : ∀ t ∈ ex1, Fits t := by
  intro t ht
  simp only [ex1, List.mem_cons, List.not_mem_nil, or_false] at ht
  rcases ht with rfl | rfl | rfl <;> (unfold Fits; simp)
theorem ex2_fits : ∀ t ∈ ex2, Fits t := by
  intro t ht
  simp only [ex2, List.mem_cons, List.not_mem_nil, or_false] at ht
  rcases ht with rfl
  unfold Fits
  simp
theorem const_at {w w1 : World} {C : Array Value} {g : Nat} (hw : w1 = w.alloc (.cells C 5)) (hg : g = w.heap.size) :
    (convert 24 24 (.slice (some ⟨g, 0, none⟩) 2 2)).run Try.prog w1 = .ok (.slice (some ⟨g, 0, none⟩) 2 2) (w.alloc (.cells C 5 (C.size, C.size + 1))) := by
  subst hg hw
  exact Lib.run_convert_bytes_const (P := Try.prog) w 24 5 C 2 2 Try.underlying24 Try.underlying5

set_option maxRecDepth 100000 in
set_option maxHeartbeats 1600000 in
theorem anchor_any (w : World) : Calls Try.prog 9 #[] w (Yes w) := by
  have b1 : Below w.heap.size w (w.alloc (.cells #[.int .i64 0, .int .i64 0, .int .u8 97, .int .i64 0, .int .i64 0, .int .u8 98, .int .i64 4, .int .i64 2, .int .u8 0] 27)) := (Below.refl _ _).alloc (Nat.le_refl _) _
  have C1 := bytes_any (w.alloc (.cells #[.int .i64 0, .int .i64 0, .int .u8 97, .int .i64 0, .int .i64 0, .int .u8 98, .int .i64 4, .int .i64 2, .int .u8 0] 27)) (some ⟨w.heap.size, 0, none⟩) 3 3 ex1 100 (toks_lit w _ ex1 rfl ex1_fits) (by omega) (by omega)
  have B1 := Lib.hid b1
  have C1 := Lib.hid C1
  clear b1
  go_enter Try.func9, Try.ntmps9
  go_wp2_with fail
  refine C1.out.mono ?_
  rintro e w1 ⟨aa, c1, he, hg⟩
  rw [ex1_brings] at he hg
  subst he
  have G1 := Lib.hid hg.arg
  have H1 := Lib.hid (show Below w.heap.size w w1 from below_more B1.out hg.old (Nat.le_refl _))
  clear hg C1 B1
  have C2 := Lib.hid (bytes_any (w1.alloc (.cells #[.int .i64 3, .int .i64 1, .int .u8 0] 27)) (some ⟨w1.heap.size, 0, none⟩) 1 1 ex2 100 (toks_lit w1 _ ex2 rfl ex2_fits) (by omega) (by omega))
  go_wp2_with fail
  refine C2.out.mono ?_
  rintro e w2 ⟨bb, c2, he, hg⟩
  rw [ex2_brings] at he hg
  subst he
  have b2 : Below w1.heap.size w1 w2 := below_more ((Below.refl _ _).alloc (Nat.le_refl _) _) hg.old (Nat.le_refl _)
  have hcv : (convert 24 9 (.slice aa 6 c1)).run Try.prog w2 = .ok (.string (strOf [97, 98, 97, 98, 97, 98])) w2 := conv_arg (G1.out.below b2)
  have H2 := Lib.hid (below_more H1.out b2 (Nat.le_refl _))
  clear hg C2 H1 G1 b2
  have hst : (strOf [97, 98, 97, 98, 97, 98]).toList = [97, 98, 97, 98, 97, 98] := by decide +kernel
  generalize strOf [97, 98, 97, 98, 97, 98] = s at *
  have hcc := const_at (w := w2) (w1 := w2.alloc (.cells #[.int .u8 97, .int .u8 98] 5)) (C := #[.int .u8 97, .int .u8 98]) rfl rfl
  have C3 := Lib.hid (find_none (w2.alloc (.cells #[.int .u8 97, .int .u8 98] 5 (2, 3))) (some ⟨w2.heap.size, 0, none⟩) 2 2 [97, 98] 0 (lit_bytes w2 #[.int .u8 97, .int .u8 98] [97, 98] (2, 3) rfl (by intro x hx; simp at hx; omega)) (by omega) (by omega))
  go_wp2_with fail
  refine C3.out.mono ?_
  rintro e w3 ⟨dd, c3, he, _, _, hb⟩
  simp only [List.map_cons, List.map_nil, List.length_cons, List.length_nil, Nat.zero_add] at he
  subst he
  have H3 := Lib.hid (show Below w.heap.size w w3 from below_more H2.out (below_more ((Below.refl _ _).alloc (Nat.le_refl _) _) hb (Nat.le_refl _)) (Nat.le_refl _))
  clear hb C3 hcv hcc
  go_wp2_with fail
  go_ret
  exact ⟨rfl, H3.out⟩
end Go.Proofs.Ytaandnikamnbbaa
