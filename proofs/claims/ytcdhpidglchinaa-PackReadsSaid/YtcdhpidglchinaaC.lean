/- Numbers and rows of numbers written (writer.numbers, writer.row, writer.point, putList of points). -/
import Derived.Test.YtcdhpidglchinaaB
namespace Go.Proofs.Ytcdhpidglchinaa
open Go.RowKit Go.Lib Pk
set_option linter.unusedSimpArgs false
set_option linter.unusedVariables false

theorem ints_at {l : List Int} {k : Nat} {x : Int} (h : l[k]? = some x) : (ints l)[k]? = some (.int .i64 x) := by simp [ints, h]
theorem take_flat {l : List Int} {k : Nat} {x : Int} (h : l[k]? = some x) : (l.take (k + 1)).flatMap put = (l.take k).flatMap put ++ put x := by
  rw [List.take_add_one, h, List.flatMap_append]
  simp
theorem at_mem {α : Type} {l : List α} {k : Nat} {x : α} (h : l[k]? = some x) : x ∈ l := List.mem_of_getElem? h
theorem flat_short {l : List Int} (hf : ∀ a ∈ l, Fit a) : (l.flatMap put).length ≤ 10 * l.length := by
  induction l with
  | nil => simp
  | cons a l ih =>
    have h1 := ih (fun x hx => hf x (List.mem_cons_of_mem _ hx))
    have h2 := put_short (hf a List.mem_cons_self)
    simp only [List.flatMap_cons, List.length_append, List.length_cons]
    omega
theorem take_fit {l : List Int} (hf : ∀ a ∈ l, Fit a) (k : Nat) : ∀ a ∈ l.take k, Fit a := fun a ha => hf a (List.mem_of_mem_take ha)
theorem flat_take_short {l : List Int} (hf : ∀ a ∈ l, Fit a) (k : Nat) (hk : k ≤ l.length) : ((l.take k).flatMap put).length ≤ 10 * k := by
  have := flat_short (take_fit hf k)
  rw [List.length_take] at this
  omega
set_option maxHeartbeats 400000 in
theorem wnums_any (w : World) (B P : Nat) (D : Option Nat) (zs : List Nat) (g : Hd) (l : List Int) (h : Wt w B P D zs) (hB : B ≤ w.heap.size) (o : Off 1 P D w g (ints l)) (hf : ∀ a ∈ l, Fit a) (hl : zs.length + 10 * l.length ≤ 33000000) :
    Calls Try.prog 27 #[.pointer (some ⟨P, 0, none⟩), .slice g.a g.n g.c] w fun e w' => e = .returned (.tuple #[]) ∧ Then w B P D (zs ++ l.flatMap put) w' := by
  have hn : l.length = g.n := by have := o.cells.len; rw [ints_length] at this; omega
  have HO := Lib.hid o
  have HT := Lib.hid h.refl
  have HF := Lib.hid hf
  obtain ⟨a, n, c⟩ := g
  simp only at hn
  have hn2 : n ≤ 33000000 := by omega
  have HN := Lib.hid (And.intro hn (And.intro hl hB))
  clear hn hl o h hf hB
  simp only
  go_enter Try.func27, Try.ntmps27
  go_wp2_with fail
  go_loopw [8] (fun v wr => ∃ k : Nat, k ≤ n ∧ v = .int .i64 k ∧ Then w B P D (zs ++ (l.take k).flatMap put) wr) (fun v _ => n - (intOf v).toNat)
  case atStart => exact ⟨0, Nat.zero_le _, rfl, by simpa using HT.out⟩
  case round =>
    obtain ⟨k, hk, rfl, ht⟩ := hrel
    have HR := Lib.hid ht
    clear ht
    by_cases hlt : k < n
    · have hkl : k < l.length := by have := HN.out.1; omega
      obtain ⟨x, hx⟩ : ∃ x, l[k]? = some x := ⟨_, List.getElem?_eq_getElem hkl⟩
      obtain ⟨b, off, e, hb, hc⟩ := (HO.out.then HR.out).at (ints_at hx)
      simp only at e
      subst e
      have fx : Fit x := HF.out _ (at_mem hx)
      have HX := Lib.hid (And.intro hx fx)
      clear hx fx hkl hb
      obtain ⟨D1, hw1, -, -⟩ := HR.out
      have HW := Lib.hid hw1
      have hs : B ≤ wr.heap.size := by obtain ⟨_, _, b, _⟩ := HR.out; exact Nat.le_trans HN.out.2.2 b.size
      have h3 : (zs ++ (l.take k).flatMap put).length ≤ 33000000 := by
        have h1 := flat_take_short HF.out k (by have := HN.out.1; omega)
        have h2 := HN.out.2.1
        have h4 := HN.out.1
        rw [List.length_append]
        omega
      have HS := Lib.hid (And.intro hs h3)
      clear hw1 hs h3
      go_wp2_with (go_at_call 37; ((with_reducible refine (wnum_any _ B P D1 _ _ HW.out HS.out.1 HX.out.2 HS.out.2).mono ?_); rintro e w1 ⟨rfl, hw1⟩; have HY := Lib.hid hw1; clear hw1))
      go_roundw
      case rel =>
        refine ⟨k + 1, by omega, by go_num, ?_⟩
        rw [take_flat HX.out.1, ← List.append_assoc]
        exact HR.out.trans (fun D2 h2 => by
          obtain rfl := h2.one HW.out
          exact HY.out)
      case measure => simp [intOf]; omega
    · go_wp2_with fail
      go_end0
      have e : k = l.length := by have := HN.out.1; omega
      have := HR.out
      rw [e, List.take_length] at this
      exact ⟨rfl, this⟩
theorem Off.more {k P B : Nat} {D D1 : Option Nat} {w w' : World} {h : Hd} {vs : List Value} {zs : List Nat} (o : Off k P D w h vs) (t : Then w B P D zs w') (h1 : Wt w' B P D1 zs) : Off k P D1 w' h vs :=
  o.next t D1 h1 (fun D' h' => h'.one h1)
theorem Then.size {w w' : World} {B P : Nat} {D : Option Nat} {zs : List Nat} (h : Then w B P D zs w') : w.heap.size ≤ w'.heap.size := by
  obtain ⟨_, _, b, _⟩ := h
  exact b.size
set_option maxHeartbeats 400000 in
theorem wrow_any (w : World) (B P : Nat) (D : Option Nat) (zs : List Nat) (g : Hd) (l : List Int) (h : Wt w B P D zs) (hB : B ≤ w.heap.size) (o : Off 1 P D w g (ints l)) (hf : ∀ a ∈ l, Fit a) (hl : zs.length + 10 * l.length ≤ 32999000) :
    Calls Try.prog 28 #[.pointer (some ⟨P, 0, none⟩), .slice g.a g.n g.c] w fun e w' => e = .returned (.tuple #[]) ∧ Then w B P D (zs ++ putL put l) w' := by
  have hn : l.length = g.n := by have := o.cells.len; rw [ints_length] at this; omega
  have hn2 : g.n ≤ 33000000 := by omega
  have fl : Fit (g.n : Int) := ⟨by omega, by omega⟩
  have C1 := Lib.hid (wnum_any w B P D zs (g.n : Int) h hB fl (by omega))
  have C2 := Lib.hid (fun (w1 : World) (D1 : Option Nat) (t : Then w B P D (zs ++ put (g.n : Int)) w1) (h1 : Wt w1 B P D1 (zs ++ put (g.n : Int))) =>
    wnums_any w1 B P D1 (zs ++ put (g.n : Int)) g l h1 (Nat.le_trans hB t.size) (o.more t h1) hf (by have := put_short fl; rw [List.length_append]; omega))
  have HN := Lib.hid hn
  clear hn h hB o hf hl fl
  go_enter Try.func28, Try.ntmps28
  go_wp2_with (first
    | (go_at_call 37; ((with_reducible refine C1.out.mono ?_); rintro e w1 ⟨rfl, hw1⟩; obtain ⟨D1, hD1, -, -⟩ := id hw1; have HY := Lib.hid hw1; have H1 := Lib.hid hD1; clear hw1 hD1))
    | (go_at_call 27; ((with_reducible refine (C2.out _ _ HY.out H1.out).mono ?_); rintro e w2 ⟨rfl, hw2⟩; have HZ := Lib.hid hw2; clear hw2)))
  go_end0
  refine ⟨rfl, HY.out.trans (fun D2 h2 => ?_)⟩
  obtain rfl := h2.one H1.out
  have := HZ.out
  rw [← HN.out] at this
  unfold putL
  rw [← List.append_assoc, HN.out]
  rw [HN.out] at this
  exact this
set_option maxHeartbeats 400000 in
theorem wpoint_any (w : World) (B P : Nat) (D : Option Nat) (zs : List Nat) (x y : Int) (h : Wt w B P D zs) (hB : B ≤ w.heap.size) (hf : Fit x ∧ Fit y) (hl : zs.length ≤ 32999000) :
    Calls Try.prog 30 #[.pointer (some ⟨P, 0, none⟩), .agg #[.int .i64 x, .int .i64 y]] w fun e w' => e = .returned (.tuple #[]) ∧ Then w B P D (zs ++ putPt (x, y)) w' := by
  have HX := Lib.hid (And.intro hf (And.intro hl hB))
  have HW := Lib.hid h
  have C1 := Lib.hid (fun (w1 : World) (cs : Array Value) (t : TypeId) (hcs : cs.toList = ints [x, y]) (k : Keeps none' w w1) (q : Nat) (hq : q = w1.heap.size) =>
    wnums_any (w1.alloc (.cells cs t)) B P D zs ⟨some ⟨q, 0, none⟩, 2, 2⟩ [x, y] (h.keep (k.alloc _)) (by have := k.size; simp; omega)
      ⟨by subst hq; exact cells_new 1 w1 cs t 2 2 _ hcs (by simp [ints]) (Nat.le_refl _) (ints_one _), by intro a ha _; cases ha; have := h.lt; have := k.size; simp; omega, by
        intro a ha _; cases ha
        intro e
        have := h.row q e.symm
        have := k.size
        omega⟩ (by intro a ha; simp at ha; rcases ha with rfl | rfl; exact hf.1; exact hf.2) (by simp; omega))
  have K0 := Lib.hid ((Keeps.refl none' w).alloc (.cells #[.int .i64 x, .int .i64 y] 60))
  clear h hB hf hl
  go_enter Try.func30, Try.ntmps30
  go_wp2_with (go_at_call 27; ((with_reducible refine (C1.out _ #[.int .i64 x, .int .i64 y] 3 rfl K0.out (w.heap.size + 1) (by simp)).mono ?_); rintro e w1 ⟨rfl, hw1⟩; have HY := Lib.hid hw1; clear hw1))
  go_end0
  have e : putPt (x, y) = [x, y].flatMap put := by simp [putPt]
  refine ⟨rfl, ?_⟩
  rw [e]
  exact Then.from ((K0.out).alloc _) HY.out
end Go.Proofs.Ytcdhpidglchinaa
