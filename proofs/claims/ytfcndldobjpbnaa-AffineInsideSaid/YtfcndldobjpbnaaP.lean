/- Rows of whole numbers; pictures in memory. -/
import Derived.Test.YtfcndldobjpbnaaD
import Derived.Maps.AppendAt
import Derived.Laws.AppendOwnNone
import Derived.Deep.DeepMust
import Derived.OwnWalk
import Derived.Laws.MakeOwn
import Derived.Laws.CopyOwn
namespace Go.Proofs.Ytfcndldobjpbnaa
open Go.RowKit Go.Maps
set_option linter.unusedVariables false

/-- Numbers that a slice value leads to. -/
def Ints (w : World) (a : Option Addr) (n : Nat) (zs : List Int) : Prop :=
  zs.length = n ∧ (∀ z ∈ zs, -9223372036854775808 ≤ z ∧ z ≤ 9223372036854775807) ∧ (0 < n → ∃ b off, a = some ⟨b, off, none⟩ ∧ ∀ (j : Nat) (z : Int), zs[j]? = some z → w.cell? ⟨b, off + j, none⟩ = some (.int .i64 z))
theorem Ints.keep {w w' : World} {a : Option Addr} {n : Nat} {zs : List Int} (h : Ints w a n zs) {X : Nat → Prop} (k : Keeps X w w') (hX : ∀ b off, a = some ⟨b, off, none⟩ → ¬ X b) : Ints w' a n zs := by
  obtain ⟨h1, h2, h3⟩ := h
  refine ⟨h1, h2, fun hp => ?_⟩
  obtain ⟨b, off, e, hc⟩ := h3 hp
  exact ⟨b, off, e, fun j y hj => (World.cell?_of_block (w := w) (k.block _ (World.block_lt_of_cell? w _ (hc j y hj)) (hX b off e))).trans (hc j y hj)⟩
theorem Ints.later {w w' : World} {a : Option Addr} {n : Nat} {zs : List Int} (h : Ints w a n zs) (k : Keeps none' w w') : Ints w' a n zs := h.keep k (fun _ _ _ h => h)
theorem Ints.at {w : World} {a : Option Addr} {n i : Nat} {zs : List Int} (h : Ints w a n zs) (hi : i < n) : ∃ b off z, a = some ⟨b, off, none⟩ ∧ zs[i]? = some z ∧ (-9223372036854775808 ≤ z ∧ z ≤ 9223372036854775807) ∧ w.cell? ⟨b, off + i, none⟩ = some (.int .i64 z) := by
  obtain ⟨h1, h2, h3⟩ := h
  obtain ⟨b, off, e, hc⟩ := h3 (by omega)
  have hl : i < zs.length := by omega
  exact ⟨b, off, zs[i], e, List.getElem?_eq_getElem hl, h2 _ (List.getElem_mem hl), hc i _ (List.getElem?_eq_getElem hl)⟩
theorem info3 : (Try.prog.info? 3).map (fun i => (i.zero, i.size, i.bytes)) = some (some (.int .i64 0), 1, 8) := by kernel_rfl
def vals (xs : List Int) : List Value := xs.map (Value.int .i64)
theorem vals_length (xs : List Int) : (vals xs).length = xs.length := by simp [vals]
theorem add_spot (b off j : Nat) : ((⟨b, off, none⟩ : Addr).add j) = ⟨b, off + j, none⟩ := by
  unfold Addr.add
  split
  · rename_i h; subst h; rfl
  · rfl
theorem own_kept {w w' : World} {B n : Nat} {v : Value} {xs : List Value} (h : w.ownsRow B 3 1 v n xs) (hk : ∀ k, v.ownBlock = some k → w'.heap[k]? = w.heap[k]?) : w'.ownsRow B 3 1 v n xs := by
  obtain ⟨h1, h2⟩ := h
  refine ⟨h1, ?_⟩
  rcases h2 with h2 | ⟨g, cap, cur, rfl, hg, hh, r⟩
  · exact Or.inl h2
  · exact Or.inr ⟨g, cap, cur, rfl, hg, (hk g rfl).trans hh, r⟩

/-- append of whole numbers to a row of the call's own, as one step. -/
theorem run_append_ints (w : World) (ty : TypeId) (base n : Nat) (v : Value) (xs : List Int) (hown : w.ownsRow base 3 1 v n (vals xs)) (ad : Option Addr) (m c : Nat) (ds : List Int) (hb : Ints w ad m ds) (hc : ad = none → m = 0 ∧ c = 0) (hn : n ≤ 33554432) (hm : m ≤ 33554432) (hbase : base ≤ w.heap.size) :
    ∃ aa cap w', (Builtin.append_ #[42, 42] ty #[v, .slice ad m c]).run Try.prog w = .ok (.slice aa (n + m) cap) w' ∧
      w'.ownsRow base 3 1 (.slice aa (n + m) cap) (n + m) (vals (xs ++ ds)) ∧ w.grownBy w' v.ownBlock ∧ ((Value.slice aa (n + m) cap).ownBlock = v.ownBlock ∨ (Value.slice aa (n + m) cap).ownBlock = some w.heap.size) := by
  obtain ⟨i0, hi, hz0, hz1, hz2⟩ := info_parts info3
  obtain ⟨hl, hby, hcell⟩ := hb
  cases ad with
  | none =>
    obtain ⟨rfl, rfl⟩ := hc rfl
    obtain rfl : ds = [] := List.eq_nil_of_length_eq_zero hl
    have hr := run_append_owned_none (P := Try.prog) (w := w) base 42 ty 3 i0 1 Try.underlying42 hi _ _ _ hown
    have hv : ∃ aa cap, v = .slice aa n cap := by
      rcases hown.2 with ⟨e, e2⟩ | ⟨g, cap, _, e, _⟩
      · exact ⟨none, 0, by rw [e, e2]⟩
      · exact ⟨_, _, e⟩
    obtain ⟨aa, cap, rfl⟩ := hv
    refine ⟨aa, cap, w, hr, ?_, ⟨rfl, rfl, rfl, Nat.le_refl _, fun _ _ _ => rfl⟩, Or.inl rfl⟩
    rw [List.append_nil]
    exact hown
  | some ad =>
    obtain ⟨v', w', hr, h1, h2, h4, h5⟩ := run_append_own_at (P := Try.prog) w base 42 ty 3 i0 (.int .i64 0) 1 8 Try.underlying42 hi hz0 hz1 hz2 rfl (by decide) _ n _ hown ad m c (vals ds) (by rw [vals_length]; omega)
      (by
        intro j u hj
        unfold vals at hj
        rw [List.getElem?_map] at hj
        have hjl : j < ds.length := by
          rcases Nat.lt_or_ge j ds.length with h | h
          · exact h
          · rw [List.getElem?_eq_none h] at hj; cases hj
        obtain ⟨b, off, e, hcl⟩ := hcell (by omega)
        cases e
        rw [List.getElem?_eq_getElem hjl] at hj
        rw [add_spot, hcl j _ (List.getElem?_eq_getElem hjl)]
        simpa using hj)
      (by intro u hu; unfold vals at hu; simp only [List.mem_map] at hu; obtain ⟨y, _, rfl⟩ := hu; rfl) (by unfold maxLen; omega) (by omega) hbase
    have hv : ∃ aa cap, v' = .slice aa (n + m) cap := by
      rcases h1.2 with ⟨e, e2⟩ | ⟨g, cap, _, e, _⟩
      · exact ⟨none, 0, by rw [e, e2]⟩
      · exact ⟨_, _, e⟩
    obtain ⟨aa, cap, rfl⟩ := hv
    have e : vals xs ++ vals ds = vals (xs ++ ds) := by simp [vals]
    rw [e] at h1
    exact ⟨aa, cap, w', hr, h1, h2, h5⟩

theorem wpList_append_ints {w : World} {ops : Array Oper} {rest : List Oper} {o : Oper} {a : Act} {Q : Exit → Act → World → Prop} (hgd : o.guard = none) (s x : Operand) (ho : o.op = .call { callee := .builtin .append, args := #[s, x], argTypes := #[42, 42] })
    (base n : Nat) (v : Value) (xs : List Int) (hs : a.eval s = v) (hown : w.ownsRow base 3 1 v n (vals xs))
    (ad : Option Addr) (m c : Nat) (ds : List Int) (hx : a.eval x = .slice ad m c) (hb : Ints w ad m ds) (hc : ad = none → m = 0 ∧ c = 0) (hn : n ≤ 33554432) (hm : m ≤ 33554432) (hbase : base ≤ w.heap.size)
    (h : ∀ aa cap w', w'.ownsRow base 3 1 (.slice aa (n + m) cap) (n + m) (vals (xs ++ ds)) → w.grownBy w' v.ownBlock → ((Value.slice aa (n + m) cap).ownBlock = v.ownBlock ∨ (Value.slice aa (n + m) cap).ownBlock = some w.heap.size) → wpList Try.prog ops Q rest (a.put o.dst (.slice aa (n + m) cap)) w') :
    wpList Try.prog ops Q (o :: rest) a w := by
  refine wpList_plain hgd fun K hK => ?_
  obtain ⟨aa, cap, w', hr, h1, h2, h3⟩ := run_append_ints w o.type base n v xs hown ad m c ds hb hc hn hm hbase
  unfold Oper.wp execOp
  simp only [ho, resolve, invoke, builtin, Sem.run_bind, Sem.run_pure, Result.andThen_ok, List.map_toArray, List.map_cons, List.map_nil, hs, hx, hr]
  exact hK _ _ (h aa cap w' h1 h2 h3)
theorem own_lt {w : World} {B n : Nat} {v : Value} {xs : List Value} (h : w.ownsRow B 3 1 v n xs) : ∀ k, v.ownBlock = some k → B ≤ k ∧ k < w.heap.size := by
  intro k hk
  rcases h.2 with ⟨rfl, _⟩ | ⟨g, cap, cur, rfl, hb, hg, _⟩
  · cases hk
  · cases hk
    refine ⟨hb, ?_⟩
    rcases Nat.lt_or_ge g w.heap.size with hlt | hge
    · exact hlt
    · rw [Array.getElem?_eq_none hge] at hg; cases hg
theorem one_ints (w : World) (z : Int) (h : -9223372036854775808 ≤ z ∧ z ≤ 9223372036854775807) : Ints (w.alloc (.cells #[.int .i64 z] 3)) (some ⟨w.heap.size, 0, none⟩) 1 [z] := by
  refine ⟨rfl, fun x hx => by simp at hx; omega, fun _ => ⟨_, 0, rfl, fun j x hj => ?_⟩⟩
  rw [World.cell?_alloc_mark, Nat.zero_add]
  match j, hj with
  | 0, hj => cases hj; rfl
  | j + 1, hj => simp at hj

theorem own_ints {w : World} {B n c : Nat} {aa : Option Addr} {xs : List Int} (h : w.ownsRow B 3 1 (.slice aa n c) n (vals xs)) (hb : ∀ z ∈ xs, -9223372036854775808 ≤ z ∧ z ≤ 9223372036854775807) : Ints w aa n xs ∧ ∀ b off, aa = some ⟨b, off, none⟩ → B ≤ b := by
  have hown := h
  obtain ⟨hl, h2⟩ := h
  rw [vals_length, Nat.mul_one] at hl
  rcases h2 with ⟨e1, e2⟩ | ⟨g, cap, cur, e, hB, hh, p1, p2, p3, p4⟩
  · cases e1
    exact ⟨⟨hl, hb, fun hp => by omega⟩, fun b off e => by cases e⟩
  · cases e
    refine ⟨⟨hl, hb, fun hp => ⟨g, 0, rfl, fun j z hj => ?_⟩⟩, fun b off e => by cases e; exact hB⟩
    rw [Nat.zero_add, cell_of_row _ _ _ _ _ _ hh]
    have hjl : j < xs.length := by
      rcases Nat.lt_or_ge j xs.length with h | h
      · exact h
      · rw [List.getElem?_eq_none h] at hj; cases hj
    have : (vals xs)[j]? = (cur.toList.take (n * 1))[j]? := by rw [p4]
    rw [List.getElem?_take_of_lt (by omega)] at this
    rw [← Array.getElem?_toList, ← this]
    simp [vals, hj]

theorem step_append_ints {w : World} {ops : Array Oper} {o : Oper} {a : Act} {K : Act → World → Prop} {Q : Exit → Act → World → Prop} {F : Prop} (hgd : o.guard = none) (s x : Operand) (ho : o.op = .call { callee := .builtin .append, args := #[s, x], argTypes := #[42, 42] })
    (base n : Nat) (v : Value) (xs : List Int) (hs : a.eval s = v) (hown : w.ownsRow base 3 1 v n (vals xs))
    (ad : Option Addr) (m c : Nat) (ds : List Int) (hx : a.eval x = .slice ad m c) (hb : Ints w ad m ds) (hc : ad = none → m = 0 ∧ c = 0) (hn : n ≤ 33554432) (hm : m ≤ 33554432) (hbase : base ≤ w.heap.size)
    (h : ∀ aa cap w', w'.ownsRow base 3 1 (.slice aa (n + m) cap) (n + m) (vals (xs ++ ds)) → w.grownBy w' v.ownBlock → ((Value.slice aa (n + m) cap).ownBlock = v.ownBlock ∨ (Value.slice aa (n + m) cap).ownBlock = some w.heap.size) → K (a.put o.dst (.slice aa (n + m) cap)) w') :
    if Region.wanted o (yielded ops a.tmps) = true then Oper.wp Try.prog o a w K Q else F := by
  have hw : Region.wanted o (yielded ops a.tmps) = true := by simp [Region.wanted, hgd]
  rw [if_pos hw]
  obtain ⟨aa, cap, w', hr, h1, h2, h3⟩ := run_append_ints w o.type base n v xs hown ad m c ds hb hc hn hm hbase
  unfold Oper.wp execOp
  simp only [ho, resolve, invoke, builtin, Sem.run_bind, Sem.run_pure, Result.andThen_ok, List.map_toArray, List.map_cons, List.map_nil, hs, hx, hr]
  exact h aa cap w' h1 h2 h3
theorem Keeps.grown {S : Nat → Prop} {w w1 w2 : World} (h : Keeps S w w1) {b : Option Nat} (g : w1.grownBy w2 b) (hb : ∀ q, q < w.heap.size → b = some q → S q) : Keeps S w w2 :=
  ⟨g.os.trans h.os, g.tape.trans h.tape, g.output.trans h.output, Nat.le_trans h.size g.size,
    fun i hi hn => (g.block i (Nat.lt_of_lt_of_le hi h.size) (fun e => hn (hb i hi e.symm))).trans (h.block i hi hn)⟩

namespace Af
def Num (z : Int) : Prop := 0 ≤ z ∧ z < 4294967296
instance (z : Int) : Decidable (Num z) := inferInstanceAs (Decidable (_ ∧ _))
end Af
/-- Is it a picture? -/
def PicOk (W H : Int) (zs : List Int) : Prop := Side W ∧ Side H ∧ (zs.length : Int) = W * H ∧ ∀ z ∈ zs, Af.Num z
instance (W H : Int) (zs : List Int) : Decidable (PicOk W H zs) := inferInstanceAs (Decidable (_ ∧ _ ∧ _ ∧ _))
/-- A picture's block. -/
def PicB (w : World) (B ty : Nat) (W H : Int) (a : Option Addr) (n c : Nat) : Prop := w.heap[B]? = some (.cells #[.int .i64 W, .int .i64 H, .slice a n c] ty (0, 0))
theorem PicB.lt {w : World} {B ty : Nat} {W H : Int} {a : Option Addr} {n c : Nat} (h : PicB w B ty W H a n c) : B < w.heap.size := lt_of_block h
theorem PicB.c0 {w : World} {B ty : Nat} {W H : Int} {a : Option Addr} {n c : Nat} (h : PicB w B ty W H a n c) : w.cell? ⟨B, 0, none⟩ = some (.int .i64 W) := by simp [World.cell?, show w.heap[B]? = _ from h]
theorem PicB.c1 {w : World} {B ty : Nat} {W H : Int} {a : Option Addr} {n c : Nat} (h : PicB w B ty W H a n c) : w.cell? ⟨B, 1, none⟩ = some (.int .i64 H) := by simp [World.cell?, show w.heap[B]? = _ from h]
theorem PicB.c2 {w : World} {B ty : Nat} {W H : Int} {a : Option Addr} {n c : Nat} (h : PicB w B ty W H a n c) : w.cell? ⟨B, 2, none⟩ = some (.slice a n c) := by simp [World.cell?, show w.heap[B]? = _ from h]
theorem PicB.fr {w : World} {B ty i : Nat} {W H : Int} {a : Option Addr} {n c : Nat} (h : PicB w B ty W H a n c) : w.frozen? ⟨B, i, none⟩ = false := by simp [World.frozen?, show w.heap[B]? = _ from h]
theorem PicB.new (w : World) (ty : Nat) (W H : Int) (a : Option Addr) (n c : Nat) : PicB (w.alloc (.cells #[.int .i64 W, .int .i64 H, .slice a n c] ty)) w.heap.size ty W H a n c := heap_alloc_new _ _
theorem PicB.later {w w' : World} {B ty : Nat} {W H : Int} {a : Option Addr} {n c : Nat} (h : PicB w B ty W H a n c) (k : Keeps none' w w') : PicB w' B ty W H a n c := (k.later B h.lt).trans h
theorem PicB.alloc {w : World} {B ty : Nat} {W H : Int} {a : Option Addr} {n c : Nat} (h : PicB w B ty W H a n c) (o : Obj) : PicB (w.alloc o) B ty W H a n c := (Below.heap_alloc _ _ _ h.lt).trans h
theorem PicB.set {w : World} {B R i ty : Nat} {W H : Int} {a : Option Addr} {n c : Nat} (h : PicB w B ty W H a n c) (hn : B ≠ R) (v : Value) : PicB (w.setCell ⟨R, i, none⟩ v) B ty W H a n c := (Below.heap_setCell _ _ _ _ hn).trans h
theorem side_yes {n : Int} (h : Side n) (w : World) : Calls Try.prog 36 #[.int .i64 n] w fun e w' => e = .returned (.bool true) ∧ w' = w := by
  have := side_any n w
  rwa [decide_eq_true h] at this
theorem side_no {n : Int} (h : ¬ Side n) (w : World) : Calls Try.prog 36 #[.int .i64 n] w fun e w' => e = .returned (.bool false) ∧ w' = w := by
  have := side_any n w
  rwa [decide_eq_false h] at this
theorem area_side {W H : Int} (hW : Side W) (hH : Side H) : 0 ≤ W * H ∧ W * H ≤ 1073741824 := by
  obtain ⟨w0, w1⟩ := hW
  obtain ⟨h0, h1⟩ := hH
  exact ⟨Int.mul_nonneg w0 h0, by have := Int.mul_le_mul w1 h1 h0 (by omega); omega⟩
def Says (b : Bool) (w : World) (e : Ending) (w' : World) : Prop := e = .returned (.bool b) ∧ Keeps none' w w'
theorem take_more {α : Type} {ys : List α} {i : Nat} {y : α} (h : ys[i]? = some y) : ys.take (i + 1) = ys.take i ++ [y] := by
  rw [List.take_add_one, h]; rfl
def AllTo (zs : List Int) (i : Nat) : Prop := ∀ z ∈ zs.take i, Af.Num z
theorem AllTo.zero (zs : List Int) : AllTo zs 0 := by intro z hz; simp at hz
theorem AllTo.more {zs : List Int} {i : Nat} {z : Int} (h : AllTo zs i) (hz : zs[i]? = some z) (hn : Af.Num z) : AllTo zs (i + 1) := by
  intro y hy
  rw [take_more hz, List.mem_append] at hy
  rcases hy with hy | hy
  · exact h y hy
  · simp at hy; subst hy; exact hn

set_option maxHeartbeats 1600000 in
theorem isRight_any (W H : Int) (a : Option Addr) (n c : Nat) (zs : List Int) (w : World) (hz : Ints w a n zs) (hn : n ≤ 16777216) (b : Bool) (hb : b = true ↔ PicOk W H zs) :
    Calls Try.prog 40 #[.agg #[.int .i64 W, .int .i64 H, .slice a n c]] w (Says b w) := by
  have P0 := Lib.hid (PicB.new w 44 W H a n c)
  have K0 := Lib.hid (keeps_alloc (w := w) (o := .cells #[.int .i64 W, .int .i64 H, .slice a n c] 44) rfl)
  have Z0 := Lib.hid (hz.later K0.out)
  have HL := Lib.hid hz.1
  have HB := Lib.hid hb
  clear hb hz
  go_enter Try.func40, Try.ntmps40
  go_upto_region 1 with (fail)
  generalize w.alloc (.cells #[.int .i64 W, .int .i64 H, .slice a n c] 44) = w1 at *
  generalize w.heap.size = B at *
  have c0 := P0.out.c0
  have c1 := P0.out.c1
  have c2 := P0.out.c2
  by_cases hW : Side W
  · have S1 := Lib.hid (fun w => side_yes hW w)
    by_cases hH : Side H
    · have S2 := Lib.hid (fun w => side_yes hH w)
      obtain ⟨p0, p1⟩ := area_side hW hH
      have wr := wrap_i64 (W * H) (by omega) (by omega)
      have HS := Lib.hid (And.intro hW hH)
      clear hW hH p0 p1
      by_cases hA : (n : Int) = W * H
      · have t1 : ((n : Int) != W * H) = false := by simpa using hA
        have t2 : decide ((n : Int) = W * H) = true := by simpa using hA
        have HA := Lib.hid hA
        clear hA
        go_wp2_with fail
        refine (S1.out _).mono ?_
        rintro e w1 ⟨rfl, rfl⟩
        go_wp2_with fail
        refine (S2.out _).mono ?_
        rintro e w1 ⟨rfl, rfl⟩
        go_wp2_with fail
        clear t1 t2 wr S1 S2
        have ER := Lib.hid (Eq.refl w1)
        go_loopw [29] (fun cnt wr => ∃ i : Nat, i ≤ n ∧ cnt = .int .i64 i ∧ AllTo zs i ∧ wr = w1) (fun cnt _ => n - (intOf cnt).toNat)
        case atStart => exact ⟨0, Nat.zero_le _, rfl, AllTo.zero zs, rfl⟩
        case round =>
          obtain ⟨i, hi, rfl, hal, hwr⟩ := hrel
          subst hwr
          have HAL := Lib.hid hal
          clear hal
          by_cases hlt : i < n
          · obtain ⟨bb, off, z, rfl, hz, hfit, hc⟩ := Z0.out.at hlt
            have HZ := Lib.hid hz
            clear hz hfit
            have hii : (i : Int) < n := by omega
            by_cases z0 : z < 0
            · have u1 : decide (z < 0) = true := by simpa using z0
              have hbf : b = false := by
                cases hbb : b
                · rfl
                · have := (HB.out.1 hbb).2.2.2 z (List.mem_of_getElem? HZ.out)
                  exact absurd this.1 (by omega)
              subst hbf
              clear z0
              go_wp2_with fail
              go_ret
              exact ⟨rfl, K0.out⟩
            · have u1 : decide (z < 0) = false := by simpa using z0
              by_cases z1 : z < 4294967296
              · have u2 : decide (4294967295 < z) = false := by simp; omega
                have u3 : decide (4294967296 ≤ z) = false := by simp; omega
                have A2 := Lib.hid (HAL.out.more HZ.out ⟨by omega, z1⟩)
                clear z0 z1
                go_wp2_with fail
                go_roundw
                case rel => exact ⟨i + 1, by omega, by go_num, A2.out, trivial⟩
                case measure => simp [intOf]; omega
              · have u2 : decide (4294967295 < z) = true := by simp; omega
                have u3 : decide (4294967296 ≤ z) = true := by simp; omega
                have hbf : b = false := by
                  cases hbb : b
                  · rfl
                  · have := (HB.out.1 hbb).2.2.2 z (List.mem_of_getElem? HZ.out)
                    exact absurd this.2 z1
                subst hbf
                clear z0 z1
                go_wp2_with fail
                go_ret
                exact ⟨rfl, K0.out⟩
          · have e : i = n := by omega
            have hbt : b = true := HB.out.2 ⟨HS.out.1, HS.out.2, by rw [HL.out]; exact HA.out, by
              have := HAL.out
              rw [e, ← HL.out] at this
              unfold AllTo at this
              rwa [List.take_length] at this⟩
            subst hbt
            have u4 : decide (i < n) = false := by simpa using hlt
            go_wp2_with fail
            go_ret
            exact ⟨rfl, K0.out⟩
      · have t1 : ((n : Int) != W * H) = true := by simpa using hA
        have t2 : decide ((n : Int) = W * H) = false := by simpa using hA
        have hbf : b = false := by
          cases hbb : b
          · rfl
          · exact absurd (by have := (HB.out.1 hbb).2.2.1; rw [HL.out] at this; exact this) hA
        subst hbf
        clear hA
        go_wp2_with fail
        refine (S1.out _).mono ?_
        rintro e w1 ⟨rfl, rfl⟩
        go_wp2_with fail
        refine (S2.out _).mono ?_
        rintro e w1 ⟨rfl, rfl⟩
        go_wp2_with fail
        go_ret
        exact ⟨rfl, K0.out⟩
    · have S2 := Lib.hid (fun w => side_no hH w)
      have hbf : b = false := by
        cases hbb : b
        · rfl
        · exact absurd (HB.out.1 hbb).2.1 hH
      subst hbf
      clear hW hH
      go_wp2_with fail
      refine (S1.out _).mono ?_
      rintro e w1 ⟨rfl, rfl⟩
      go_wp2_with fail
      refine (S2.out _).mono ?_
      rintro e w1 ⟨rfl, rfl⟩
      go_wp2_with fail
      go_ret
      exact ⟨rfl, K0.out⟩
  · have S1 := Lib.hid (fun w => side_no hW w)
    have hbf : b = false := by
      cases hbb : b
      · rfl
      · exact absurd (HB.out.1 hbb).1 hW
    subst hbf
    clear hW
    go_wp2_with fail
    refine (S1.out _).mono ?_
    rintro e w1 ⟨rfl, rfl⟩
    go_wp2_with fail
    go_ret
    exact ⟨rfl, K0.out⟩
set_option maxHeartbeats 1600000 in
theorem docPic_any (W H : Int) (a : Option Addr) (n c : Nat) (zs : List Int) (w : World) (hz : Ints w a n zs) (hn : n ≤ 16777216) (b : Bool) (hb : b = true ↔ PicOk W H zs) :
    Calls Try.prog 28 #[.agg #[.int .i64 W, .int .i64 H, .slice a n c]] w (Says b w) := by
  have P0 := Lib.hid (PicB.new w 47 W H a n c)
  have K0 := Lib.hid (keeps_alloc (w := w) (o := .cells #[.int .i64 W, .int .i64 H, .slice a n c] 47) rfl)
  have Z0 := Lib.hid (hz.later K0.out)
  have HL := Lib.hid hz.1
  have HB := Lib.hid hb
  clear hb hz
  go_enter Try.func28, Try.ntmps28
  go_upto_region 1 with (fail)
  generalize w.alloc (.cells #[.int .i64 W, .int .i64 H, .slice a n c] 47) = w1 at *
  generalize w.heap.size = B at *
  have c0 := P0.out.c0
  have c1 := P0.out.c1
  have c2 := P0.out.c2
  by_cases w0 : W < 0
  · have t1 : decide (W < 0) = true := by simpa using w0
    have hbf : b = false := by
      cases hbb : b
      · rfl
      · exact absurd (HB.out.1 hbb).1.1 (by omega)
    subst hbf
    clear w0
    go_wp2_with fail
    go_ret
    exact ⟨rfl, K0.out⟩
  have t1 : decide (W < 0) = false := by simpa using w0
  by_cases wl : 32768 < W
  · have t2 : decide (32768 < W) = true := by simpa using wl
    have hbf : b = false := by
      cases hbb : b
      · rfl
      · exact absurd (HB.out.1 hbb).1.2 (by omega)
    subst hbf
    clear w0 wl
    go_wp2_with fail
    go_ret
    exact ⟨rfl, K0.out⟩
  have t2 : decide (32768 < W) = false := by simpa using wl
  by_cases h0 : H < 0
  · have t3 : decide (H < 0) = true := by simpa using h0
    have hbf : b = false := by
      cases hbb : b
      · rfl
      · exact absurd (HB.out.1 hbb).2.1.1 (by omega)
    subst hbf
    clear w0 wl h0
    go_wp2_with fail
    go_ret
    exact ⟨rfl, K0.out⟩
  have t3 : decide (H < 0) = false := by simpa using h0
  by_cases hl : 32768 < H
  · have t4 : decide (32768 < H) = true := by simpa using hl
    have hbf : b = false := by
      cases hbb : b
      · rfl
      · exact absurd (HB.out.1 hbb).2.1.2 (by omega)
    subst hbf
    clear w0 wl h0 hl
    go_wp2_with fail
    go_ret
    exact ⟨rfl, K0.out⟩
  have t4 : decide (32768 < H) = false := by simpa using hl
  have hW : Side W := ⟨by omega, by omega⟩
  have hH : Side H := ⟨by omega, by omega⟩
  obtain ⟨p0, p1⟩ := area_side hW hH
  have wr := wrap_i64 (W * H) (by omega) (by omega)
  have HS := Lib.hid (And.intro hW hH)
  clear hW hH p0 p1 w0 wl h0 hl
  by_cases hA : (n : Int) = W * H
  · have t5 : ((n : Int) != W * H) = false := by simpa using hA
    have t6 : decide ((n : Int) = W * H) = true := by simpa using hA
    have HA := Lib.hid hA
    clear hA
    go_wp2_with fail
    clear t1 t2 t3 t4 t5 t6 wr
    have ER := Lib.hid (Eq.refl w1)
    go_loopw [3] (fun cnt wr => ∃ i : Nat, i ≤ n ∧ cnt = .int .i64 i ∧ AllTo zs i ∧ wr = w1) (fun cnt _ => n - (intOf cnt).toNat)
    case atStart => exact ⟨0, Nat.zero_le _, rfl, AllTo.zero zs, rfl⟩
    case round =>
      obtain ⟨i, hi, rfl, hal, hwr⟩ := hrel
      subst hwr
      have HAL := Lib.hid hal
      clear hal
      by_cases hlt : i < n
      · obtain ⟨bb, off, z, rfl, hz, hfit, hc⟩ := Z0.out.at hlt
        have HZ := Lib.hid hz
        clear hz hfit
        have hii : (i : Int) < n := by omega
        by_cases z0 : z < 0
        · have u1 : decide (z < 0) = true := by simpa using z0
          have hbf : b = false := by
            cases hbb : b
            · rfl
            · have := (HB.out.1 hbb).2.2.2 z (List.mem_of_getElem? HZ.out)
              exact absurd this.1 (by omega)
          subst hbf
          clear z0
          go_wp2_with fail
          go_ret
          exact ⟨rfl, K0.out⟩
        · have u1 : decide (z < 0) = false := by simpa using z0
          by_cases z1 : z < 4294967296
          · have u2 : decide (4294967295 < z) = false := by simp; omega
            have u3 : decide (4294967296 ≤ z) = false := by simp; omega
            have A2 := Lib.hid (HAL.out.more HZ.out ⟨by omega, z1⟩)
            clear z0 z1
            go_wp2_with fail
            go_roundw
            case rel => exact ⟨i + 1, by omega, by go_num, A2.out, trivial⟩
            case measure => simp [intOf]; omega
          · have u2 : decide (4294967295 < z) = true := by simp; omega
            have u3 : decide (4294967296 ≤ z) = true := by simp; omega
            have hbf : b = false := by
              cases hbb : b
              · rfl
              · have := (HB.out.1 hbb).2.2.2 z (List.mem_of_getElem? HZ.out)
                exact absurd this.2 z1
            subst hbf
            clear z0 z1
            go_wp2_with fail
            go_ret
            exact ⟨rfl, K0.out⟩
      · have e : i = n := by omega
        have hbt : b = true := HB.out.2 ⟨HS.out.1, HS.out.2, by rw [HL.out]; exact HA.out, by
          have := HAL.out
          rw [e, ← HL.out] at this
          unfold AllTo at this
          rwa [List.take_length] at this⟩
        subst hbt
        have u4 : decide (i < n) = false := by simpa using hlt
        go_wp2_with fail
        go_ret
        exact ⟨rfl, K0.out⟩
  · have t5 : ((n : Int) != W * H) = true := by simpa using hA
    have t6 : decide ((n : Int) = W * H) = false := by simpa using hA
    have hbf : b = false := by
      cases hbb : b
      · rfl
      · exact absurd (by have := (HB.out.1 hbb).2.2.1; rw [HL.out] at this; exact this) hA
    subst hbf
    clear hA
    go_wp2_with fail
    go_ret
    exact ⟨rfl, K0.out⟩
end Go.Proofs.Ytfcndldobjpbnaa
