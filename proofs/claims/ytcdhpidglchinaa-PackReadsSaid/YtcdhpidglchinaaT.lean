/- What came in: whole numbers, bytes, an edit. -/
import Derived.Test.YtcdhpidglchinaaF
import Derived.Test.YtcdhpidglchinaaG
import Derived.Deep.Slices
import Derived.OpenShut
import Derived.ChangeOld
import Derived.ChangeSlices
import Derived.ProofKit
import Derived.Laws.IdiomArrays
namespace Go.Proofs.Ytcdhpidglchinaa
open Go.ChangeShapes Go.WideShapes Go.ChangeAt Go.RowKit Go.Lib Pk
set_option linter.unusedSimpArgs false
set_option linter.unusedVariables false

theorem fit_wf {n : Int} (h : (Lit.int .i64 n).wf = true) : Fit n := by
  simp [Lit.wf, IntKind.min, IntKind.max, IntKind.signed, IntKind.bits] at h
  exact ⟨by omega, by omega⟩
theorem byte_wf {n : Int} (h : (Lit.int .u8 n).wf = true) : 0 ≤ n ∧ n < 256 := by
  simp [Lit.wf, IntKind.min, IntKind.max, IntKind.signed, IntKind.bits] at h
  omega
theorem head_spot {w : World} {x : Addr} {v : Value} (h : w.cell? (x.add 0) = some v) : ∃ b off, x = ⟨b, off, none⟩ := by
  obtain ⟨b, off, spot⟩ := x
  have h1 := World.cell?_spot (by simpa [Addr.add] using h)
  simp only at h1
  exact ⟨b, off, by rw [h1]⟩
/-- Cells that were read one by one. -/
theorem cells_in {w : World} {x : Addr} {len cp : Nat} {vs : List Value} (hl : len ≤ cp) (hv : vs.length = len) (h1 : ∀ u ∈ vs, u.oneCell' = true) (hc : ∀ j u, vs[j]? = some u → w.cell? (x.add j) = some u) : Cells 1 w ⟨some x, len, cp⟩ vs := by
  refine ⟨by show vs.length = len * 1; omega, hl, fun e => (by cases e), h1, fun y hy hp => ?_⟩
  cases hy
  simp only at hp
  have h0 := hc 0 _ (List.getElem?_eq_getElem (by omega))
  obtain ⟨b, off, rfl⟩ := head_spot h0
  have hb := World.block_lt_of_cell? w _ h0
  refine ⟨rfl, by simpa [Addr.add] using hb, fun j u hj => ?_⟩
  have := hc j u hj
  rw [add_spot] at this
  exact this
/-- Bytes that came in. -/
def BytesIn (w : World) (g : Hd) (xs : List Nat) : Prop := Cells 1 w g (bys xs) ∧ ∀ y ∈ xs, y < 256
theorem bytes_of_trod {H : Type} {enc : TypeId × Value → H} {w : World} {fuel : Nat} {a : Option Addr} {len cp : Nat} {x : DataW H × List MemPlace}
    (h : DataW.trod enc Try.prog w 0 (fun _ => true) true fuel 29 [.slice a len cp] = some x) : ∃ zs, BytesIn w ⟨a, len, cp⟩ zs := by
  rcases open_ints Try.underlying29 Try.underlying5 (by kernel_rfl) h with ⟨hcs, _⟩ | ⟨x, l, c, zs, hcs, _, hl, hm, hz, _, hcell, hwz⟩
  · simp at hcs
    obtain ⟨rfl, rfl, rfl⟩ := hcs
    exact ⟨[], Cells.nil 1 w, fun y hy => by cases hy⟩
  · simp at hcs
    obtain ⟨rfl, rfl, rfl⟩ := hcs
    have hz2 : zs.length = cp := by simpa using hz
    have e : bys ((zs.take len).map Int.toNat) = (zs.take len).map (Value.int .u8) := by
      unfold bys
      rw [List.map_map]
      refine List.map_congr_left (fun z hz3 => ?_)
      have := byte_wf (hwz z (List.mem_of_mem_take hz3))
      simp only [Function.comp]
      congr 1
      omega
    refine ⟨(zs.take len).map Int.toNat, ?_, fun y hy => ?_⟩
    · refine cells_in hl (by rw [bys_length]; simp; omega) (bys_one _) (fun j u hj => ?_)
      rw [e, List.getElem?_map, List.getElem?_take] at hj
      split at hj
      · have hj2 : j < zs.length := by omega
        have hc := hcell j hj2
        rw [List.getD_eq_getElem?_getD] at hc
        rw [List.getElem?_eq_getElem hj2] at hj hc
        simp at hj hc
        rw [← hj]
        exact hc
      · cases hj
    · simp only [List.mem_map] at hy
      obtain ⟨z, hz3, rfl⟩ := hy
      have := byte_wf (hwz z (List.mem_of_mem_take hz3))
      omega
/-- Whole numbers that came in. -/
theorem ints_of_trod {H : Type} {enc : TypeId × Value → H} {w : World} {fuel : Nat} {v : Value} {x : DataW H × List MemPlace}
    (h : DataW.trod enc Try.prog w 0 (fun _ => true) true fuel 22 [v] = some x) : ∃ (q : Hd) (zs : List Int), v = .slice q.a q.n q.c ∧ Cells 1 w q (ints zs) ∧ (∀ z ∈ zs, Fit z) ∧ q.n ≤ 9223372036854775807 := by
  rcases open_ints Try.underlying22 Try.underlying3 (by kernel_rfl) h with ⟨hcs, _⟩ | ⟨x, len, cp, zs, hcs, _, hl, hm, hz, _, hcell, hwz⟩
  · have hv : v = .slice none 0 0 := (List.cons.inj hcs).1
    exact ⟨Hd.nil, [], hv, Cells.nil 1 w, fun z hz => (by cases hz), by show 0 ≤ _; omega⟩
  · have hv : v = .slice (some x) len cp := (List.cons.inj hcs).1
    have hz2 : zs.length = cp := by simpa using hz
    refine ⟨⟨some x, len, cp⟩, zs.take len, hv, ?_, fun z hz3 => fit_wf (hwz z (List.mem_of_mem_take hz3)), by unfold maxLen at hm; show len ≤ _; omega⟩
    refine cells_in hl (by rw [ints_length, List.length_take]; omega) (ints_one _) (fun j u hj => ?_)
    unfold ints at hj
    rw [List.getElem?_map, List.getElem?_take] at hj
    split at hj
    · have hj2 : j < zs.length := by omega
      have hc := hcell j hj2
      rw [List.getD_eq_getElem?_getD] at hc
      rw [List.getElem?_eq_getElem hj2] at hj hc
      simp at hj hc
      rw [← hj]
      exact hc
    · cases hj
theorem cellsPt : Try.prog.cellsOf 60 = 2 := by kernel_rfl
theorem pts_of_trod {H : Type} {enc : TypeId × Value → H} {w : World} {fuel : Nat} {v : Value} {x : DataW H × List MemPlace}
    (h : DataW.trod enc Try.prog w 0 (fun _ => true) true fuel 23 [v] = some x) : ∃ (q : Hd) (zs : List (Int × Int)), v = .slice q.a q.n q.c ∧ Cells 2 w q (pts zs) ∧ (∀ z ∈ zs, Fit z.1 ∧ Fit z.2) ∧ q.n ≤ 9223372036854775807 := by
  rcases Deep.open_slice Try.underlying23 h with ⟨hcs, _⟩ | ⟨ad, len, cp, m, n, D, Pl, hcs, _, hl, hm, hmm, _, hi⟩
  · have hv : v = .slice none 0 0 := (List.cons.inj hcs).1
    exact ⟨Hd.nil, [], hv, Cells.nil 2 w, fun z hz => (by cases hz), by show 0 ≤ _; omega⟩
  · have hv : v = .slice (some ad) len cp := (List.cons.inj hcs).1
    by_cases h0 : len = 0
    · subst h0
      exact ⟨⟨some ad, 0, cp⟩, [], hv, ⟨rfl, Nat.zero_le _, fun e => (by cases e), fun u hu => (by cases hu), fun y hy hp => absurd hp (Nat.lt_irrefl 0)⟩, fun z hz => (by cases hz), by show 0 ≤ _; omega⟩
    obtain ⟨b, off, spot⟩ := ad
    have hsp : spot = none := by
      obtain ⟨cs, hc, _⟩ := hi 0 (by rw [hmm, if_pos rfl]; omega)
      rw [cellsPt, Nat.zero_mul] at hc
      obtain ⟨_, hcl, hat⟩ := World.cells?_some hc
      have h1 := World.cell?_spot ((hat 0 (by omega)).trans (List.getElem?_eq_getElem (by omega)))
      simpa [Addr.add] using h1
    subst hsp
    have each : ∀ i, i < len → ∃ p : Int × Int, w.cell? ⟨b, off + i * 2, none⟩ = some (.int .i64 p.1) ∧ w.cell? ⟨b, off + i * 2 + 1, none⟩ = some (.int .i64 p.2) ∧ Fit p.1 ∧ Fit p.2 := by
      intro i hlt
      obtain ⟨cs, hc, ht⟩ := hi i (by rw [hmm, if_pos rfl]; omega)
      rw [cellsPt] at hc
      obtain ⟨ys, n', _, _, _, hyl, hf⟩ := DataW.trod_struct Try.underlying60 ht
      obtain ⟨_, hcl, hat⟩ := World.cells?_some hc
      match cs, hcl with
      | [v0, v1], _ =>
        match ys, hyl with
        | [y0, y1], _ =>
          have f0 : DataW.trod enc Try.prog w 0 (fun _ => true) true n' 3 (List.take (Try.prog.cellsOf 3) [v0, v1]) = some y0 := hf 0 _ rfl
          rw [show Try.prog.cellsOf 3 = 1 by kernel_rfl] at f0
          obtain ⟨z0, e0, _, r0⟩ := DataW.trod_int Try.underlying3 f0
          obtain rfl : v0 = _ := (List.cons.inj (show [v0] = [_] from e0)).1
          have f1 : DataW.trod enc Try.prog w 0 (fun _ => true) true n' 3 (List.take (Try.prog.cellsOf 3) [v1]) = some y1 := hf 1 _ rfl
          rw [show Try.prog.cellsOf 3 = 1 by kernel_rfl] at f1
          obtain ⟨z1, e1, _, r1⟩ := DataW.trod_int Try.underlying3 f1
          obtain rfl : v1 = _ := (List.cons.inj (show [v1] = [_] from e1)).1
          simp only [add_spot] at hat
          exact ⟨(z0, z1), hat 0 (by omega), hat 1 (by omega), fit_wf r0, fit_wf r1⟩
    have h4 : ∀ i : Nat, ∃ p : Int × Int, i < len → w.cell? ⟨b, off + i * 2, none⟩ = some (.int .i64 p.1) ∧ w.cell? ⟨b, off + i * 2 + 1, none⟩ = some (.int .i64 p.2) ∧ Fit p.1 ∧ Fit p.2 := by
      intro i
      by_cases hlt : i < len
      · obtain ⟨p, hp⟩ := each i hlt
        exact ⟨p, fun _ => hp⟩
      · exact ⟨(0, 0), fun h => absurd h hlt⟩
    obtain ⟨f, hf⟩ := Classical.axiomOfChoice h4
    refine ⟨⟨some ⟨b, off, none⟩, len, cp⟩, (List.range len).map f, hv, ?_, ?_, by unfold maxLen at hm; show len ≤ _; omega⟩
    · refine ⟨by rw [pts_length]; simp, hl, fun e => (by cases e), pts_one _, fun y hy hp => ?_⟩
      cases hy
      refine ⟨rfl, World.block_lt_of_cell? w _ (hf 0 hp).1, fun j u hj => ?_⟩
      have hjl := (List.getElem?_eq_some_iff.1 hj).1
      rw [pts_length, List.length_map, List.length_range] at hjl
      have hi2 : j / 2 < len := by omega
      have hg : ((List.range len).map f)[j / 2]? = some (f (j / 2)) := by rw [List.getElem?_map, List.getElem?_range hi2]; rfl
      obtain ⟨a1, a2⟩ := pts_at hg
      obtain ⟨c1, c2, _⟩ := hf (j / 2) hi2
      rcases (show j = j / 2 * 2 ∨ j = j / 2 * 2 + 1 by omega) with e | e
      · rw [e] at hj ⊢
        rw [a1] at hj
        cases hj
        exact c1
      · rw [e] at hj ⊢
        rw [a2] at hj
        cases hj
        exact c2
    · intro z hz
      simp only [List.mem_map, List.mem_range] at hz
      obtain ⟨i, hi2, rfl⟩ := hz
      exact (hf i hi2).2.2
theorem list19 {α : Type} : ∀ (l : List α), l.length = 19 → ∃ v0 v1 v2 v3 v4 v5 v6 v7 v8 v9 v10 v11 v12 v13 v14 v15 v16 v17 v18, l = [v0, v1, v2, v3, v4, v5, v6, v7, v8, v9, v10, v11, v12, v13, v14, v15, v16, v17, v18]
  | [v0, v1, v2, v3, v4, v5, v6, v7, v8, v9, v10, v11, v12, v13, v14, v15, v16, v17, v18], _ => ⟨v0, v1, v2, v3, v4, v5, v6, v7, v8, v9, v10, v11, v12, v13, v14, v15, v16, v17, v18, rfl⟩
theorem map_of_trod {H : Type} {enc : TypeId × Value → H} {W : World} {fuel : Nat} {c0 c1 c2 c3 c4 c5 : Value} {x : DataW H × List MemPlace}
    (hf : DataW.trod enc Try.prog W 0 (fun _ => true) true fuel 25 [c0, c1, c2, c3, c4, c5] = some x) : ∃ a b c d e f : Int, c0 = .int .i64 a ∧ c1 = .int .i64 b ∧ c2 = .int .i64 c ∧ c3 = .int .i64 d ∧ c4 = .int .i64 e ∧ c5 = .int .i64 f ∧ Fit a ∧ Fit b ∧ Fit c ∧ Fit d ∧ Fit e ∧ Fit f := by
  obtain ⟨xs, m1, hx, hx1, hlen, hn, hel⟩ := DataW.trod_array Try.underlying25 hf
  rw [show Try.prog.cellsOf 3 = 1 by kernel_rfl] at hel
  have key : ∀ i, i < 6 → ∀ c, [c0, c1, c2, c3, c4, c5][i]? = some c → ∃ k : Int, c = .int .i64 k ∧ Fit k := by
    intro i hi c hc
    have h0 := hel i hi
    have hxi : i < xs.length := by omega
    rw [List.getElem?_eq_getElem hxi] at h0
    obtain ⟨k, e0, _, hk⟩ := DataW.trod_int Try.underlying3 h0
    refine ⟨k, ?_, fit_wf hk⟩
    have e1 : ((([c0, c1, c2, c3, c4, c5] : List Value).drop (i * 1)).take 1)[0]? = some (.int .i64 k) := by
      rw [show ((([c0, c1, c2, c3, c4, c5] : List Value).drop (i * 1)).take 1) = _ from e0]; rfl
    rw [List.getElem?_take_of_lt (by omega), List.getElem?_drop, Nat.add_zero, Nat.mul_one, hc] at e1
    exact Option.some.inj e1
  obtain ⟨a, rfl, f1⟩ := key 0 (by omega) _ rfl
  obtain ⟨b, rfl, f2⟩ := key 1 (by omega) _ rfl
  obtain ⟨c, rfl, f3⟩ := key 2 (by omega) _ rfl
  obtain ⟨d, rfl, f4⟩ := key 3 (by omega) _ rfl
  obtain ⟨e, rfl, f5⟩ := key 4 (by omega) _ rfl
  obtain ⟨f, rfl, f6⟩ := key 5 (by omega) _ rfl
  exact ⟨a, b, c, d, e, f, rfl, rfl, rfl, rfl, rfl, rfl, f1, f2, f3, f4, f5, f6⟩
/-- An edit that came in. -/
structure EditIn (w : World) (e : PEd) (p s q : Hd) : Prop where
  cells : EdIn w e p s q
  ok : EdOk e.ed
set_option maxRecDepth 100000 in
theorem edit_of_trod {H : Type} {enc : TypeId × Value → H} {w : World} {base : Nat} {v : Value} {d : DataW H} {p : List MemPlace} (hv : Value.okWide Try.prog w .any base 27 v)
    (h : DataW.Trod enc Try.prog w 0 (fun _ => true) true 27 v d p) : ∃ (e : PEd) (p s q : Hd), v = edV e p s q ∧ EditIn w e p s q := by
  obtain ⟨cs, rfl, hsz, _⟩ : ∃ cs, v = .agg cs ∧ cs.size = Try.prog.cellsOf 27 ∧ Row.okWide Try.prog w .any base 27 cs := by
    simpa [Value.okWide, Try.underlying27] using hv
  rw [show Try.prog.cellsOf 27 = 19 by kernel_rfl] at hsz
  obtain ⟨l⟩ := cs
  obtain ⟨v0, v1, v2, v3, v4, v5, v6, v7, v8, v9, v10, v11, v12, v13, v14, v15, v16, v17, v18, rfl⟩ := list19 l hsz
  obtain ⟨fuel, hf0⟩ := h
  have hf1 : DataW.trod enc Try.prog w 0 (fun _ => true) true fuel 27 [v0, v1, v2, v3, v4, v5, v6, v7, v8, v9, v10, v11, v12, v13, v14, v15, v16, v17, v18] = some (d, p) := hf0
  obtain ⟨ys, n', _, _, _, hyl, hf⟩ := DataW.trod_struct Try.underlying27 hf1
  match ys, hyl with
  | [y0, y1, y2, y3, y4, y5, y6, y7, y8, y9, y10, y11, y12, y13], _ =>
    have f0 : DataW.trod enc Try.prog w 0 (fun _ => true) true n' 3 (List.take (Try.prog.cellsOf 3) [v0, v1, v2, v3, v4, v5, v6, v7, v8, v9, v10, v11, v12, v13, v14, v15, v16, v17, v18]) = some y0 := hf 0 _ rfl
    rw [show Try.prog.cellsOf 3 = 1 by kernel_rfl] at f0
    obtain ⟨z0, e0, _, r0⟩ := DataW.trod_int Try.underlying3 f0
    obtain rfl : v0 = _ := (List.cons.inj (show [v0] = [_] from e0)).1
    have f1 : DataW.trod enc Try.prog w 0 (fun _ => true) true n' 3 (List.take (Try.prog.cellsOf 3) [v1, v2, v3, v4, v5, v6, v7, v8, v9, v10, v11, v12, v13, v14, v15, v16, v17, v18]) = some y1 := hf 1 _ rfl
    rw [show Try.prog.cellsOf 3 = 1 by kernel_rfl] at f1
    obtain ⟨z1, e1, _, r1⟩ := DataW.trod_int Try.underlying3 f1
    obtain rfl : v1 = _ := (List.cons.inj (show [v1] = [_] from e1)).1
    have f2 : DataW.trod enc Try.prog w 0 (fun _ => true) true n' 3 (List.take (Try.prog.cellsOf 3) [v2, v3, v4, v5, v6, v7, v8, v9, v10, v11, v12, v13, v14, v15, v16, v17, v18]) = some y2 := hf 2 _ rfl
    rw [show Try.prog.cellsOf 3 = 1 by kernel_rfl] at f2
    obtain ⟨z2, e2, _, r2⟩ := DataW.trod_int Try.underlying3 f2
    obtain rfl : v2 = _ := (List.cons.inj (show [v2] = [_] from e2)).1
    have f3 : DataW.trod enc Try.prog w 0 (fun _ => true) true n' 3 (List.take (Try.prog.cellsOf 3) [v3, v4, v5, v6, v7, v8, v9, v10, v11, v12, v13, v14, v15, v16, v17, v18]) = some y3 := hf 3 _ rfl
    rw [show Try.prog.cellsOf 3 = 1 by kernel_rfl] at f3
    obtain ⟨z3, e3, _, r3⟩ := DataW.trod_int Try.underlying3 f3
    obtain rfl : v3 = _ := (List.cons.inj (show [v3] = [_] from e3)).1
    have f4 : DataW.trod enc Try.prog w 0 (fun _ => true) true n' 3 (List.take (Try.prog.cellsOf 3) [v4, v5, v6, v7, v8, v9, v10, v11, v12, v13, v14, v15, v16, v17, v18]) = some y4 := hf 4 _ rfl
    rw [show Try.prog.cellsOf 3 = 1 by kernel_rfl] at f4
    obtain ⟨z4, e4, _, r4⟩ := DataW.trod_int Try.underlying3 f4
    obtain rfl : v4 = _ := (List.cons.inj (show [v4] = [_] from e4)).1
    have f5 : DataW.trod enc Try.prog w 0 (fun _ => true) true n' 3 (List.take (Try.prog.cellsOf 3) [v5, v6, v7, v8, v9, v10, v11, v12, v13, v14, v15, v16, v17, v18]) = some y5 := hf 5 _ rfl
    rw [show Try.prog.cellsOf 3 = 1 by kernel_rfl] at f5
    obtain ⟨z5, e5, _, r5⟩ := DataW.trod_int Try.underlying3 f5
    obtain rfl : v5 = _ := (List.cons.inj (show [v5] = [_] from e5)).1
    have f6 : DataW.trod enc Try.prog w 0 (fun _ => true) true n' 3 (List.take (Try.prog.cellsOf 3) [v6, v7, v8, v9, v10, v11, v12, v13, v14, v15, v16, v17, v18]) = some y6 := hf 6 _ rfl
    rw [show Try.prog.cellsOf 3 = 1 by kernel_rfl] at f6
    obtain ⟨z6, e6, _, r6⟩ := DataW.trod_int Try.underlying3 f6
    obtain rfl : v6 = _ := (List.cons.inj (show [v6] = [_] from e6)).1
    have f7 : DataW.trod enc Try.prog w 0 (fun _ => true) true n' 3 (List.take (Try.prog.cellsOf 3) [v7, v8, v9, v10, v11, v12, v13, v14, v15, v16, v17, v18]) = some y7 := hf 7 _ rfl
    rw [show Try.prog.cellsOf 3 = 1 by kernel_rfl] at f7
    obtain ⟨z7, e7, _, r7⟩ := DataW.trod_int Try.underlying3 f7
    obtain rfl : v7 = _ := (List.cons.inj (show [v7] = [_] from e7)).1
    have f8 : DataW.trod enc Try.prog w 0 (fun _ => true) true n' 3 (List.take (Try.prog.cellsOf 3) [v8, v9, v10, v11, v12, v13, v14, v15, v16, v17, v18]) = some y8 := hf 8 _ rfl
    rw [show Try.prog.cellsOf 3 = 1 by kernel_rfl] at f8
    obtain ⟨z8, e8, _, r8⟩ := DataW.trod_int Try.underlying3 f8
    obtain rfl : v8 = _ := (List.cons.inj (show [v8] = [_] from e8)).1
    have f9 : DataW.trod enc Try.prog w 0 (fun _ => true) true n' 3 (List.take (Try.prog.cellsOf 3) [v9, v10, v11, v12, v13, v14, v15, v16, v17, v18]) = some y9 := hf 9 _ rfl
    rw [show Try.prog.cellsOf 3 = 1 by kernel_rfl] at f9
    obtain ⟨z9, e9, _, r9⟩ := DataW.trod_int Try.underlying3 f9
    obtain rfl : v9 = _ := (List.cons.inj (show [v9] = [_] from e9)).1
    have f10 : DataW.trod enc Try.prog w 0 (fun _ => true) true n' 22 (List.take (Try.prog.cellsOf 22) [v10, v11, v12, v13, v14, v15, v16, v17, v18]) = some y10 := hf 10 _ rfl
    rw [show Try.prog.cellsOf 22 = 1 by kernel_rfl] at f10
    obtain ⟨hp, zp, rfl, RP, FP, LP⟩ := ints_of_trod (show DataW.trod enc Try.prog w 0 (fun _ => true) true n' 22 [v10] = some y10 from f10)
    have f11 : DataW.trod enc Try.prog w 0 (fun _ => true) true n' 23 (List.take (Try.prog.cellsOf 23) [v11, v12, v13, v14, v15, v16, v17, v18]) = some y11 := hf 11 _ rfl
    rw [show Try.prog.cellsOf 23 = 1 by kernel_rfl] at f11
    obtain ⟨hs, zs, rfl, RS, FS, LS⟩ := pts_of_trod (show DataW.trod enc Try.prog w 0 (fun _ => true) true n' 23 [v11] = some y11 from f11)
    have f12 : DataW.trod enc Try.prog w 0 (fun _ => true) true n' 25 (List.take (Try.prog.cellsOf 25) [v12, v13, v14, v15, v16, v17, v18]) = some y12 := hf 12 _ rfl
    rw [show Try.prog.cellsOf 25 = 6 by kernel_rfl] at f12
    obtain ⟨ma, mb, mc, md, me, mf, rfl, rfl, rfl, rfl, rfl, rfl, g1, g2, g3, g4, g5, g6⟩ := map_of_trod (show DataW.trod enc Try.prog w 0 (fun _ => true) true n' 25 [v12, v13, v14, v15, v16, v17] = some y12 from f12)
    have f13 : DataW.trod enc Try.prog w 0 (fun _ => true) true n' 22 (List.take (Try.prog.cellsOf 22) [v18]) = some y13 := hf 13 _ rfl
    rw [show Try.prog.cellsOf 22 = 1 by kernel_rfl] at f13
    obtain ⟨hq, zq, rfl, RQ, FQ, LQ⟩ := ints_of_trod (show DataW.trod enc Try.prog w 0 (fun _ => true) true n' 22 [v18] = some y13 from f13)
    refine ⟨⟨z0, z1, z2, z3, z4, z5, z6, z7, z8, z9, zp, zs, ma, mb, mc, md, me, mf, zq⟩, hp, hs, hq, rfl, ⟨RP, RS, RQ⟩, ⟨?_, rfl⟩, ⟨FP, ?_⟩, ⟨FS, ?_⟩, ⟨?_, rfl⟩, ⟨FQ, ?_⟩⟩
    · intro a ha
      simp only [PEd.ed, PEd.ten, List.mem_cons, List.not_mem_nil, or_false] at ha
      rcases ha with rfl | rfl | rfl | rfl | rfl | rfl | rfl | rfl | rfl | rfl
      · exact fit_wf r0
      · exact fit_wf r1
      · exact fit_wf r2
      · exact fit_wf r3
      · exact fit_wf r4
      · exact fit_wf r5
      · exact fit_wf r6
      · exact fit_wf r7
      · exact fit_wf r8
      · exact fit_wf r9
    · have := RP.len
      rw [ints_length] at this
      show zp.length ≤ _
      omega
    · have := RS.len
      rw [pts_length] at this
      show zs.length ≤ _
      omega
    · intro a ha
      simp only [PEd.ed, PEd.six, List.mem_cons, List.not_mem_nil, or_false] at ha
      rcases ha with rfl | rfl | rfl | rfl | rfl | rfl
      · exact g1
      · exact g2
      · exact g3
      · exact g4
      · exact g5
      · exact g6
    · have := RQ.len
      rw [ints_length] at this
      show zq.length ≤ _
      omega
end Go.Proofs.Ytcdhpidglchinaa
