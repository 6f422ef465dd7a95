/- Texts of a layer, one behind the other. -/
import Derived.Test.YtfcpbpfemmdklaaGreatMAs
import Derived.Test.YtfcpbpfemmdklaaGreatMAu
import Derived.Test.YtfcpbpfemmdklaaGreatMAv
import Derived.Laws.IdiomArrays
import Derived.Test.YtfcpbpfemmdklaaGreatMAl
/- A list of edits that came in, read cell by cell. (printed by genZZF.py) -/
namespace Go.Proofs.YtfcpbpfemmdklaaGreat.Tr
open Go.ChangeShapes Go.WideShapes Go.ChangeAt Go.RowKit Go.Lib
set_option linter.unusedSimpArgs false
set_option linter.unusedVariables false

theorem bounds64 {n : Int} (h : (Lit.int .i64 n).wf = true) : -9223372036854775808 ≤ n ∧ n ≤ 9223372036854775807 := by
  simp [Lit.wf, IntKind.min, IntKind.max, IntKind.signed, IntKind.bits] at h
  omega
/-- A row of whole numbers that came in, of any length. -/
def RdAny (w : World) (q : Hd) (l : List Int) : Prop := (Cells 1 w q (ints l) ∨ (q.n = 0 ∧ l = [] ∧ ∃ x, q.a = some x)) ∧ In64 l ∧ q.n ≤ q.c ∧ l.length = q.n
theorem RdAny.rdw {w : World} {q : Hd} {l : List Int} (h : RdAny w q l) (hn : q.n ≤ 536870912) : RdW w q l := by
  rcases h.1 with c | c
  · exact .inl ⟨c, hn⟩
  · exact .inr c
theorem RdAny.later {w w' : World} {q : Hd} {l : List Int} (h : RdAny w q l) (k : Keeps none' w w') : RdAny w' q l := by
  refine ⟨?_, h.2⟩
  rcases h.1 with c | c
  · exact .inl (c.later k)
  · exact .inr c
theorem head_spot {w : World} {x : Addr} {v : Value} (h : w.cell? (x.add 0) = some v) : ∃ b off, x = ⟨b, off, none⟩ := by
  obtain ⟨b, off, spot⟩ := x
  have h1 := World.cell?_spot (by simpa [Addr.add] using h)
  simp only at h1
  exact ⟨b, off, by rw [h1]⟩
theorem any_of_trod {H : Type} {enc : TypeId × Value → H} {w : World} {fuel : Nat} {v : Value} {x : DataW H × List MemPlace}
    (h : DataW.trod enc Tryz.prog w 0 (fun _ => true) true fuel 33 [v] = some x) : ∃ (q : Hd) (zs : List Int), v = .slice q.a q.n q.c ∧ RdAny w q zs := by
  rcases open_ints Tryz.underlying33 Tryz.underlying3 (by kernel_rfl) h with ⟨hcs, _⟩ | ⟨x, len, cp, zs, hcs, _, hl, hm, hz, _, hcell, hwz⟩
  · have hv : v = .slice none 0 0 := (List.cons.inj hcs).1
    exact ⟨Hd.nil, [], hv, .inl (Cells.nil 1 w), fun z hz => by simp at hz, Nat.le_refl _, rfl⟩
  · have hv : v = .slice (some x) len cp := (List.cons.inj hcs).1
    have hz2 : zs.length = cp := by simpa using hz
    refine ⟨⟨some x, len, cp⟩, zs.take len, hv, ?_, fun z hz3 => bounds64 (hwz z (List.mem_of_mem_take hz3)), hl, by rw [List.length_take]; show min len zs.length = len; omega⟩
    by_cases h0 : len = 0
    · subst h0
      exact .inr ⟨rfl, by simp, x, rfl⟩
    · refine .inl ⟨by simp [ints]; omega, hl, fun e => (by cases e), ints_one _, fun y hy => ?_⟩
      cases hy
      obtain ⟨b, off, rfl⟩ := head_spot (hcell 0 (by omega))
      have hb := World.block_lt_of_cell? w _ (hcell 0 (by omega))
      refine ⟨rfl, by simpa [Addr.add] using hb, fun j u hj => ?_⟩
      unfold ints at hj
      rw [List.getElem?_map, List.getElem?_take] at hj
      split at hj
      · have hj2 : j < zs.length := by omega
        have hc := hcell j hj2
        rw [add_spot, List.getD_eq_getElem?_getD] at hc
        rw [List.getElem?_eq_getElem hj2] at hj hc
        simp at hj hc
        rw [← hj]
        exact hc
      · cases hj
theorem map_of_trod {H : Type} {enc : TypeId × Value → H} {W : World} {fuel : Nat} {c0 c1 c2 c3 c4 c5 : Value} {x : DataW H × List MemPlace}
    (hf : DataW.trod enc Tryz.prog W 0 (fun _ => true) true fuel 36 [c0, c1, c2, c3, c4, c5] = some x) : ∃ a b c d e f : Int, c0 = .int .i64 a ∧ c1 = .int .i64 b ∧ c2 = .int .i64 c ∧ c3 = .int .i64 d ∧ c4 = .int .i64 e ∧ c5 = .int .i64 f := by
  obtain ⟨xs, m1, hx, hx1, hlen, hn, hel⟩ := DataW.trod_array Tryz.underlying36 hf
  rw [show Tryz.prog.cellsOf 3 = 1 by kernel_rfl] at hel
  have key : ∀ i, i < 6 → ∀ c, [c0, c1, c2, c3, c4, c5][i]? = some c → ∃ k : Int, c = .int .i64 k := by
    intro i hi c hc
    have h0 := hel i hi
    have hxi : i < xs.length := by omega
    rw [List.getElem?_eq_getElem hxi] at h0
    obtain ⟨k, e0, _⟩ := DataW.trod_int Tryz.underlying3 h0
    refine ⟨k, ?_⟩
    have e1 : ((([c0, c1, c2, c3, c4, c5] : List Value).drop (i * 1)).take 1)[0]? = some (.int .i64 k) := by
      rw [show ((([c0, c1, c2, c3, c4, c5] : List Value).drop (i * 1)).take 1) = _ from e0]; rfl
    rw [List.getElem?_take_of_lt (by omega), List.getElem?_drop, Nat.add_zero, Nat.mul_one, hc] at e1
    exact Option.some.inj e1
  obtain ⟨a, rfl⟩ := key 0 (by omega) _ rfl
  obtain ⟨b, rfl⟩ := key 1 (by omega) _ rfl
  obtain ⟨c, rfl⟩ := key 2 (by omega) _ rfl
  obtain ⟨d, rfl⟩ := key 3 (by omega) _ rfl
  obtain ⟨e, rfl⟩ := key 4 (by omega) _ rfl
  obtain ⟨f, rfl⟩ := key 5 (by omega) _ rfl
  exact ⟨a, b, c, d, e, f, rfl, rfl, rfl, rfl, rfl, rfl⟩
/-- An edit that came in, with the headers of its lists. -/
structure EdIn (w : World) (e : PEd) (p s q : Hd) : Prop where
  pix : RdAny w p e.p
  shp : La.Pts w s.a s.n (e.shape.map ptOf)
  prm : RdAny w q e.pars
theorem EdIn.later {w w' : World} {e : PEd} {p s q : Hd} (h : EdIn w e p s q) (k : Keeps none' w w') : EdIn w' e p s q :=
  ⟨h.pix.later k, h.shp.later (fun i hi => k.later i hi), h.prm.later k⟩
/-- Small enough for a play. -/
def SmallE (p s q : Hd) : Prop := p.n ≤ 600 ∧ s.n ≤ 300 ∧ q.n ≤ 100
theorem EdIn.ok {w : World} {e : PEd} {p s q : Hd} (h : EdIn w e p s q) (b : SmallE p s q) : EdOk w e p s q :=
  ⟨h.pix.rdw (by have := b.1; omega), h.shp, by have := b.2.1; omega, h.prm.rdw (by have := b.2.2; omega), h.prm.2.1, by have := b.2.2; omega, h.prm.2.2.1⟩
/-- One edit with its headers. -/
structure EdH where
  e : PEd
  p : Hd
  s : Hd
  q : Hd
def EdH.cells (x : EdH) : List Value := edCells x.e x.p x.s x.q
theorem EdH.len (x : EdH) : x.cells.length = 19 := by simp [EdH.cells, edCells]
/-- A list of edits that came in. -/
def Eds (w : World) (a : Option Addr) (n : Nat) (xs : List EdH) : Prop :=
  xs.length = n ∧ ∀ (i : Nat) (x : EdH), xs[i]? = some x → ∃ b off, a = some ⟨b, off, none⟩ ∧ w.rangeAt b (off + i * 19) x.cells ∧ EdIn w x.e x.p x.s x.q
theorem cells35 : Tryz.prog.cellsOf 38 = 19 := by kernel_rfl
set_option maxRecDepth 100000 in
theorem eds_each {H : Type} {enc : TypeId × Value → H} {w : World} {fuel : Nat} {a : Option Addr} {len cp : Nat} {x : DataW H × List MemPlace}
    (h : DataW.trod enc Tryz.prog w 0 (fun _ => true) true fuel 22 [.slice a len cp] = some x) : len ≤ cp ∧ cp ≤ maxLen ∧ ∀ i, i < len → ∃ (x : EdH) (b off : Nat), a = some ⟨b, off, none⟩ ∧ w.rangeAt b (off + i * 19) x.cells ∧ EdIn w x.e x.p x.s x.q := by
  rcases Deep.open_slice Tryz.underlying22 h with ⟨hcs, _⟩ | ⟨ad, l, c, m, n, D, Pl, hcs, _, hl, hm, hmm, _, hi⟩
  · simp only [List.cons.injEq, and_true, Value.slice.injEq] at hcs
    obtain ⟨rfl, rfl, rfl⟩ := hcs
    exact ⟨Nat.le_refl _, Nat.zero_le _, fun i hi => by omega⟩
  · simp only [List.cons.injEq, and_true, Value.slice.injEq] at hcs
    obtain ⟨rfl, rfl, rfl⟩ := hcs
    refine ⟨hl, hm, fun i hlt => ?_⟩
    obtain ⟨b, off, spot⟩ := ad
    have hsp : spot = none := by
      obtain ⟨cs, hc, _⟩ := hi 0 (by rw [hmm, if_pos rfl]; omega)
      rw [cells35, Nat.zero_mul] at hc
      obtain ⟨_, hcl, hat⟩ := World.cells?_some hc
      have h1 := World.cell?_spot ((hat 0 (by omega)).trans (List.getElem?_eq_getElem (by omega)))
      simpa [Addr.add] using h1
    subst hsp
    obtain ⟨cs, hc, ht⟩ := hi i (by rw [hmm, if_pos rfl]; omega)
    rw [cells35] at hc
    obtain ⟨ys, n', _, _, _, hyl, hf⟩ := DataW.trod_struct Tryz.underlying38 ht
    obtain ⟨_, hcl, hat⟩ := World.cells?_some hc
    match cs, hcl with
    | [v0, v1, v2, v3, v4, v5, v6, v7, v8, v9, v10, v11, v12, v13, v14, v15, v16, v17, v18], _ =>
      match ys, hyl with
      | [y0, y1, y2, y3, y4, y5, y6, y7, y8, y9, y10, y11, y12, y13], _ =>
        have f0 : DataW.trod enc Tryz.prog w 0 (fun _ => true) true n' 3 (List.take (Tryz.prog.cellsOf 3) [v0, v1, v2, v3, v4, v5, v6, v7, v8, v9, v10, v11, v12, v13, v14, v15, v16, v17, v18]) = some y0 := hf 0 _ rfl
        rw [show Tryz.prog.cellsOf 3 = 1 by kernel_rfl] at f0
        obtain ⟨z0, e0, _, r0⟩ := DataW.trod_int Tryz.underlying3 f0
        obtain rfl : v0 = _ := (List.cons.inj (show [v0] = [_] from e0)).1
        have f1 : DataW.trod enc Tryz.prog w 0 (fun _ => true) true n' 3 (List.take (Tryz.prog.cellsOf 3) [v1, v2, v3, v4, v5, v6, v7, v8, v9, v10, v11, v12, v13, v14, v15, v16, v17, v18]) = some y1 := hf 1 _ rfl
        rw [show Tryz.prog.cellsOf 3 = 1 by kernel_rfl] at f1
        obtain ⟨z1, e1, _, r1⟩ := DataW.trod_int Tryz.underlying3 f1
        obtain rfl : v1 = _ := (List.cons.inj (show [v1] = [_] from e1)).1
        have f2 : DataW.trod enc Tryz.prog w 0 (fun _ => true) true n' 3 (List.take (Tryz.prog.cellsOf 3) [v2, v3, v4, v5, v6, v7, v8, v9, v10, v11, v12, v13, v14, v15, v16, v17, v18]) = some y2 := hf 2 _ rfl
        rw [show Tryz.prog.cellsOf 3 = 1 by kernel_rfl] at f2
        obtain ⟨z2, e2, _, r2⟩ := DataW.trod_int Tryz.underlying3 f2
        obtain rfl : v2 = _ := (List.cons.inj (show [v2] = [_] from e2)).1
        have f3 : DataW.trod enc Tryz.prog w 0 (fun _ => true) true n' 3 (List.take (Tryz.prog.cellsOf 3) [v3, v4, v5, v6, v7, v8, v9, v10, v11, v12, v13, v14, v15, v16, v17, v18]) = some y3 := hf 3 _ rfl
        rw [show Tryz.prog.cellsOf 3 = 1 by kernel_rfl] at f3
        obtain ⟨z3, e3, _, r3⟩ := DataW.trod_int Tryz.underlying3 f3
        obtain rfl : v3 = _ := (List.cons.inj (show [v3] = [_] from e3)).1
        have f4 : DataW.trod enc Tryz.prog w 0 (fun _ => true) true n' 3 (List.take (Tryz.prog.cellsOf 3) [v4, v5, v6, v7, v8, v9, v10, v11, v12, v13, v14, v15, v16, v17, v18]) = some y4 := hf 4 _ rfl
        rw [show Tryz.prog.cellsOf 3 = 1 by kernel_rfl] at f4
        obtain ⟨z4, e4, _, r4⟩ := DataW.trod_int Tryz.underlying3 f4
        obtain rfl : v4 = _ := (List.cons.inj (show [v4] = [_] from e4)).1
        have f5 : DataW.trod enc Tryz.prog w 0 (fun _ => true) true n' 3 (List.take (Tryz.prog.cellsOf 3) [v5, v6, v7, v8, v9, v10, v11, v12, v13, v14, v15, v16, v17, v18]) = some y5 := hf 5 _ rfl
        rw [show Tryz.prog.cellsOf 3 = 1 by kernel_rfl] at f5
        obtain ⟨z5, e5, _, r5⟩ := DataW.trod_int Tryz.underlying3 f5
        obtain rfl : v5 = _ := (List.cons.inj (show [v5] = [_] from e5)).1
        have f6 : DataW.trod enc Tryz.prog w 0 (fun _ => true) true n' 3 (List.take (Tryz.prog.cellsOf 3) [v6, v7, v8, v9, v10, v11, v12, v13, v14, v15, v16, v17, v18]) = some y6 := hf 6 _ rfl
        rw [show Tryz.prog.cellsOf 3 = 1 by kernel_rfl] at f6
        obtain ⟨z6, e6, _, r6⟩ := DataW.trod_int Tryz.underlying3 f6
        obtain rfl : v6 = _ := (List.cons.inj (show [v6] = [_] from e6)).1
        have f7 : DataW.trod enc Tryz.prog w 0 (fun _ => true) true n' 3 (List.take (Tryz.prog.cellsOf 3) [v7, v8, v9, v10, v11, v12, v13, v14, v15, v16, v17, v18]) = some y7 := hf 7 _ rfl
        rw [show Tryz.prog.cellsOf 3 = 1 by kernel_rfl] at f7
        obtain ⟨z7, e7, _, r7⟩ := DataW.trod_int Tryz.underlying3 f7
        obtain rfl : v7 = _ := (List.cons.inj (show [v7] = [_] from e7)).1
        have f8 : DataW.trod enc Tryz.prog w 0 (fun _ => true) true n' 3 (List.take (Tryz.prog.cellsOf 3) [v8, v9, v10, v11, v12, v13, v14, v15, v16, v17, v18]) = some y8 := hf 8 _ rfl
        rw [show Tryz.prog.cellsOf 3 = 1 by kernel_rfl] at f8
        obtain ⟨z8, e8, _, r8⟩ := DataW.trod_int Tryz.underlying3 f8
        obtain rfl : v8 = _ := (List.cons.inj (show [v8] = [_] from e8)).1
        have f9 : DataW.trod enc Tryz.prog w 0 (fun _ => true) true n' 3 (List.take (Tryz.prog.cellsOf 3) [v9, v10, v11, v12, v13, v14, v15, v16, v17, v18]) = some y9 := hf 9 _ rfl
        rw [show Tryz.prog.cellsOf 3 = 1 by kernel_rfl] at f9
        obtain ⟨z9, e9, _, r9⟩ := DataW.trod_int Tryz.underlying3 f9
        obtain rfl : v9 = _ := (List.cons.inj (show [v9] = [_] from e9)).1
        have f10 : DataW.trod enc Tryz.prog w 0 (fun _ => true) true n' 33 (List.take (Tryz.prog.cellsOf 33) [v10, v11, v12, v13, v14, v15, v16, v17, v18]) = some y10 := hf 10 _ rfl
        rw [show Tryz.prog.cellsOf 33 = 1 by kernel_rfl] at f10
        obtain ⟨hp, zp, rfl, RP⟩ := any_of_trod (show DataW.trod enc Tryz.prog w 0 (fun _ => true) true n' 33 [v10] = some y10 from f10)
        have f11 : DataW.trod enc Tryz.prog w 0 (fun _ => true) true n' 34 (List.take (Tryz.prog.cellsOf 34) [v11, v12, v13, v14, v15, v16, v17, v18]) = some y11 := hf 11 _ rfl
        rw [show Tryz.prog.cellsOf 34 = 1 by kernel_rfl] at f11
        have hs11 : ∃ sa sn sc, v11 = .slice sa sn sc := by
          rcases Deep.open_slice Tryz.underlying34 (show DataW.trod enc Tryz.prog w 0 (fun _ => true) true n' 34 [v11] = some y11 from f11) with ⟨hcs, _⟩ | ⟨ad, l, c, m, n, D, Pl, hcs, _⟩
          · exact ⟨none, 0, 0, (List.cons.inj hcs).1⟩
          · exact ⟨_, _, _, (List.cons.inj hcs).1⟩
        obtain ⟨sa, sn, sc, rfl⟩ := hs11
        obtain ⟨zs, RS, _⟩ := La.pts_of_trod (show DataW.trod enc Tryz.prog w 0 (fun _ => true) true n' 34 [.slice sa sn sc] = some y11 from f11)
        have f12 : DataW.trod enc Tryz.prog w 0 (fun _ => true) true n' 36 (List.take (Tryz.prog.cellsOf 36) [v12, v13, v14, v15, v16, v17, v18]) = some y12 := hf 12 _ rfl
        rw [show Tryz.prog.cellsOf 36 = 6 by kernel_rfl] at f12
        obtain ⟨ma, mb, mc, md, me, mf, rfl, rfl, rfl, rfl, rfl, rfl⟩ := map_of_trod (show DataW.trod enc Tryz.prog w 0 (fun _ => true) true n' 36 [v12, v13, v14, v15, v16, v17] = some y12 from f12)
        have f13 : DataW.trod enc Tryz.prog w 0 (fun _ => true) true n' 33 (List.take (Tryz.prog.cellsOf 33) [v18]) = some y13 := hf 13 _ rfl
        rw [show Tryz.prog.cellsOf 33 = 1 by kernel_rfl] at f13
        obtain ⟨hq, zq, rfl, RQ⟩ := any_of_trod (show DataW.trod enc Tryz.prog w 0 (fun _ => true) true n' 33 [v18] = some y13 from f13)
        refine ⟨⟨⟨z0, z1, z2, z3, z4, z5, z6, z7, z8, z9, zp, zs.map (fun t => (t.X, t.Y)), ma, mb, mc, md, me, mf, zq⟩, hp, ⟨sa, sn, sc⟩, hq⟩, b, off, rfl, fun j u hj => ?_, ⟨RP, ?_, RQ⟩⟩
        · have hj19 : j < 19 := by
            have h9 := (List.getElem?_eq_some_iff.1 hj).1
            rw [EdH.len] at h9
            exact h9
          have h9 := hat j hj19
          rw [La.add_none] at h9
          exact h9.trans hj
        · have e9 : (zs.map (fun t => (t.X, t.Y))).map ptOf = zs := by
            rw [List.map_map]
            exact (List.map_congr_left (fun t _ => rfl)).trans (List.map_id _)
          show La.Pts w sa sn ((zs.map (fun t => (t.X, t.Y))).map ptOf)
          rw [e9]
          exact RS
theorem eds_of_trod {H : Type} {enc : TypeId × Value → H} {w : World} {fuel : Nat} {a : Option Addr} {len cp : Nat} {x : DataW H × List MemPlace}
    (h : DataW.trod enc Tryz.prog w 0 (fun _ => true) true fuel 22 [.slice a len cp] = some x) : (len ≤ cp ∧ cp ≤ maxLen) ∧ ∃ xs, Eds w a len xs := by
  obtain ⟨h1, h2, h3⟩ := eds_each h
  refine ⟨⟨h1, h2⟩, ?_⟩
  have h4 : ∀ i : Nat, ∃ x : EdH, i < len → ∃ b off, a = some ⟨b, off, none⟩ ∧ w.rangeAt b (off + i * 19) x.cells ∧ EdIn w x.e x.p x.s x.q := by
    intro i
    by_cases hi : i < len
    · obtain ⟨x, hx⟩ := h3 i hi
      exact ⟨x, fun _ => hx⟩
    · exact ⟨⟨⟨0, 0, 0, 0, 0, 0, 0, 0, 0, 0, [], [], 0, 0, 0, 0, 0, 0, []⟩, Hd.nil, Hd.nil, Hd.nil⟩, fun h => absurd h hi⟩
  obtain ⟨f, hf⟩ := Classical.axiomOfChoice h4
  refine ⟨(List.range len).map f, by simp, fun i x hx => ?_⟩
  rw [List.getElem?_map] at hx
  by_cases hi : i < len
  · rw [List.getElem?_range hi] at hx
    simp only [Option.map_some, Option.some.injEq] at hx
    subst hx
    exact hf i hi
  · have : (List.range len)[i]? = none := by simp; omega
    rw [this] at hx
    cases hx
end Go.Proofs.YtfcpbpfemmdklaaGreat.Tr

/- Edits that a play goes through with. (printed by genZZG.py) -/
namespace Go.Proofs.YtfcpbpfemmdklaaGreat.Tr
open Go.RowKit Go.Lib
set_option linter.unusedSimpArgs false
set_option linter.unusedVariables false

/-- A bool, whichever; the world as it was. -/
def SomeB (w : World) (en : Ending) (w' : World) : Prop := ∃ b : Bool, en = .returned (.bool b) ∧ w = w'
set_option maxRecDepth 100000 in
set_option maxHeartbeats 800000 in
theorem sized_any (x y : Int) (w : World) : Calls Tryz.prog 25 #[.int .i64 x, .int .i64 y] w (SomeB w) := by
  by_cases t1 : x ≥ 1
  · have d1 : decide (x ≥ 1) = true := by simpa using t1
    by_cases t2 : y ≥ 1
    · have d2 : decide (y ≥ 1) = true := by simpa using t2
      by_cases t3 : x ≤ 32768
      · have d3 : decide (x ≤ 32768) = true := by simpa using t3
        by_cases t4 : y ≤ 32768
        · have d4 : decide (y ≤ 32768) = true := by simpa using t4
          clear t1 t2 t3 t4
          obtain ⟨m, hm⟩ : ∃ m, wrap64 (x * y) = m := ⟨_, rfl⟩
          go_enter Tryz.func25, Tryz.ntmps25
          go_wp2_with fail
          go_ret
          exact ⟨_, rfl, rfl⟩
        · have d4 : decide (y ≤ 32768) = false := by simpa using t4
          clear t1 t2 t3 t4
          go_enter Tryz.func25, Tryz.ntmps25
          go_wp2_with fail
          go_ret
          exact ⟨_, rfl, rfl⟩
      · have d3 : decide (x ≤ 32768) = false := by simpa using t3
        clear t1 t2 t3
        go_enter Tryz.func25, Tryz.ntmps25
        go_wp2_with fail
        go_ret
        exact ⟨_, rfl, rfl⟩
    · have d2 : decide (y ≥ 1) = false := by simpa using t2
      clear t1 t2
      go_enter Tryz.func25, Tryz.ntmps25
      go_wp2_with fail
      go_ret
      exact ⟨_, rfl, rfl⟩
  · have d1 : decide (x ≥ 1) = false := by simpa using t1
    clear t1
    go_enter Tryz.func25, Tryz.ntmps25
    go_wp2_with fail
    go_ret
    exact ⟨_, rfl, rfl⟩
/-- What Small tells of edits. -/
def SmallSays (n most : Nat) (xs : List EdH) (w : World) (en : Ending) (w' : World) : Prop :=
  ∃ b : Bool, en = .returned (.bool b) ∧ (b = true → n ≤ most ∧ ∀ x ∈ xs, SmallE x.p x.s x.q) ∧ Keeps none' w w'
theorem ed_row35 (x : EdH) : (Tryz.prog.info? 38).map (·.size) = some x.cells.length ∧ (Tryz.prog.info? 38).map (·.size) = some x.cells.toArray.size ∧ 19 = x.cells.toArray.size ∧ x.cells.toArray.all (·.oneCell') = true := by
  obtain ⟨e, p, s, q⟩ := x
  have h := ed_row e p s q
  exact ⟨by rw [EdH.len]; exact size35, h.1, h.2.1, h.2.2⟩
theorem small_zero (a : Option Addr) (c : Nat) (most : Nat) (w : World) (hm : most ≤ 1000) : Calls Tryz.prog 8 #[.slice a 0 c, .int .i64 (most : Int)] w (SmallSays 0 most [] w) := by
  have d1 : decide ((0 : Int) > (most : Int)) = false := by simp
  have d2 : decide ((most : Int) < 0) = false := by simp
  clear hm
  go_enter Tryz.func8, Tryz.ntmps8
  go_wp2_with fail
  go_loopw [13] (fun s13 wr => s13 = .int .i64 0 ∧ Keeps none' w wr) (fun _ _ => 0)
  case atStart => exact ⟨rfl, Keeps.refl _ _⟩
  case round =>
    obtain ⟨rfl, hk⟩ := hrel
    have K := Lib.hid hk
    clear hk
    go_wp2_with fail
    go_ret
    exact ⟨true, rfl, fun _ => ⟨Nat.zero_le _, fun x hx => (by cases hx)⟩, K.out⟩
set_option maxRecDepth 100000 in
set_option maxHeartbeats 3200000 in
theorem small_some (b off n c : Nat) (most : Nat) (xs : List EdH) (w : World) (hm : most ≤ 1000) (hn : n ≤ most) (E : Eds w (some ⟨b, off, none⟩) n xs) : Calls Tryz.prog 8 #[.slice (some ⟨b, off, none⟩) n c, .int .i64 (most : Int)] w (SmallSays n most xs w) := by
  have d1 : decide ((n : Int) > (most : Int)) = false := by simp; omega
  have d2 : decide (most < n) = false := by simp; omega
  have HE := Lib.hid E
  have HM := Lib.hid (And.intro hm hn)
  clear E hm hn
  go_enter Tryz.func8, Tryz.ntmps8
  go_wp2_with fail
  clear d1 d2
  go_loopw [13] (fun s13 wr => ∃ i : Nat, i ≤ n ∧ s13 = .int .i64 i ∧ (∀ x ∈ xs.take i, SmallE x.p x.s x.q) ∧ Keeps none' w wr) (fun s13 _ => n - (intOf s13).toNat)
  case atStart => exact ⟨0, Nat.zero_le _, rfl, fun x hx => (by simp at hx), Keeps.refl _ _⟩
  case round =>
    obtain ⟨i, hi, rfl, ha, hk⟩ := hrel
    have HA := Lib.hid ha
    have K := Lib.hid hk
    clear ha hk
    by_cases hlt : i < n
    · have tk : decide ((i : Int) < (n : Int)) = true := by simp; omega
      have tk2 : decide (i < n) = true := by simp; omega
      obtain ⟨x, hx⟩ : ∃ x, xs[i]? = some x := ⟨_, List.getElem?_eq_getElem (by have := HE.out.1; omega)⟩
      obtain ⟨b', off', e0, hr, hin⟩ := HE.out.2 i x hx
      cases e0
      have RG := Lib.hid (show wr.rangeAt b (off + i * 19) x.cells from fun j u hj => K.out.cell (hr j u hj))
      have LF := Lib.hid (ed_row35 x)
      have HX := Lib.hid (take_more hx)
      have hb : (i : Int) < 1000 := by have := HM.out; omega
      have hii : (i : Int) < n := by omega
      have iw : wrap64 ((i : Int) + 1) = (i : Int) + 1 := wrap64_id _ (by omega) (by omega)
      clear hx hr hin
      go_upto_region 6 with (first
        | (refine wpList_load_mid rfl 38 _ rfl b (off + i * 19) rfl x.cells _ RG.out Tryz.underlying38 rfl LF.out.1 ?_)
        | (refine wpList_store_row rfl 38 _ _ rfl wr.heap.size x.cells.toArray rfl rfl 38 _ (heap_alloc_new _ _) LF.out.2.1 (by exact LF.out.2.2.1) LF.out.2.2.2 ?_))
      have EB := Lib.hid (show Eb ((wr.alloc (.cells #[.int .i64 0, .int .i64 0, .int .i64 0, .int .i64 0, .int .i64 0, .int .i64 0, .int .i64 0, .int .i64 0, .int .i64 0, .int .i64 0, .slice none 0 0, .slice none 0 0, .int .i64 0, .int .i64 0, .int .i64 0, .int .i64 0, .int .i64 0, .int .i64 0, .slice none 0 0] 38)).setRow wr.heap.size x.cells.toArray) wr.heap.size x.e x.p x.s x.q from setRow_heap _ _ _ _ _ _ (heap_alloc_new _ _))
      have K2 := Lib.hid (K.out.next (((Keeps.refl none' wr).alloc (.cells #[.int .i64 0, .int .i64 0, .int .i64 0, .int .i64 0, .int .i64 0, .int .i64 0, .int .i64 0, .int .i64 0, .int .i64 0, .int .i64 0, .slice none 0 0, .slice none 0 0, .int .i64 0, .int .i64 0, .int .i64 0, .int .i64 0, .int .i64 0, .int .i64 0, .slice none 0 0] 38)).setRow (Nat.le_refl _) x.cells.toArray))
      generalize (wr.alloc (.cells #[.int .i64 0, .int .i64 0, .int .i64 0, .int .i64 0, .int .i64 0, .int .i64 0, .int .i64 0, .int .i64 0, .int .i64 0, .int .i64 0, .slice none 0 0, .slice none 0 0, .int .i64 0, .int .i64 0, .int .i64 0, .int .i64 0, .int .i64 0, .int .i64 0, .slice none 0 0] 38)).setRow wr.heap.size x.cells.toArray = w2 at *
      obtain ⟨L, hL⟩ : ∃ L, L = wr.heap.size := ⟨_, rfl⟩
      rw [← hL] at EB
      rw [← hL]
      clear hL RG LF
      have e0 := EB.out.c0
      have e4 := EB.out.c4
      have e8 := EB.out.c8
      have e9 := EB.out.c9
      have e10 := EB.out.c10
      have e11 := EB.out.c11
      have e18 := EB.out.c18
      have SZ := Lib.hid (fun w' => sized_any x.e.w x.e.h w')
      unfold SomeB at SZ
      simp only [Act.put]
      go_cut [57] from 17 (fun s57 w' => ∃ v : Bool, s57 = .bool v ∧ (v = false → SmallE x.p x.s x.q) ∧ Keeps none' w2 w')
      case first =>
        obtain ⟨e, p, s, q⟩ := x
        by_cases t1 : 600 < p.n
        · have d1 : decide ((p.n : Int) > 600) = true := by simp; omega
          have d2 : decide (600 < p.n) = true := by simp; omega
          clear t1
          go_wp2_with fail
          go_meet
          case rel => exact ⟨true, rfl, fun h => (by cases h), Keeps.refl _ _⟩
        by_cases t2 : 300 < s.n
        · have d1 : decide ((p.n : Int) > 600) = false := by simp; omega
          have d2 : decide (600 < p.n) = false := by simp; omega
          have d3 : decide ((s.n : Int) > 300) = true := by simp; omega
          have d4 : decide (300 < s.n) = true := by simp; omega
          clear t1 t2
          go_wp2_with fail
          go_meet
          case rel => exact ⟨true, rfl, fun h => (by cases h), Keeps.refl _ _⟩
        by_cases t3 : 100 < q.n
        · have d1 : decide ((p.n : Int) > 600) = false := by simp; omega
          have d2 : decide (600 < p.n) = false := by simp; omega
          have d3 : decide ((s.n : Int) > 300) = false := by simp; omega
          have d4 : decide (300 < s.n) = false := by simp; omega
          have d5 : decide ((q.n : Int) > 100) = true := by simp; omega
          have d6 : decide (100 < q.n) = true := by simp; omega
          clear t1 t2 t3
          go_wp2_with fail
          go_meet
          case rel => exact ⟨true, rfl, fun h => (by cases h), Keeps.refl _ _⟩
        have SM := Lib.hid (show SmallE p s q from ⟨by omega, by omega, by omega⟩)
        have d1 : decide ((p.n : Int) > 600) = false := by simp; omega
        have d2 : decide (600 < p.n) = false := by simp; omega
        have d3 : decide ((s.n : Int) > 300) = false := by simp; omega
        have d4 : decide (300 < s.n) = false := by simp; omega
        have d5 : decide ((q.n : Int) > 100) = false := by simp; omega
        have d6 : decide (100 < q.n) = false := by simp; omega
        clear t1 t2 t3
        by_cases t4 : e.kind = 1
        · have g1 : (e.kind == 1) = true := by simp [t4]
          by_cases t5 : e.n = 0
          · have g2 : (e.n == 0) = true := by simp [t5]
            clear t4 t5
            obtain ⟨m, hm⟩ : ∃ m, wrap64 (e.w * e.h) = m := ⟨_, rfl⟩
            go_wp2_with ((with_reducible refine (SZ.out _).mono ?_); rintro en w3 ⟨v, rfl, hw⟩; replace hw := hw.symm; subst hw; cases v)
            all_goals
              go_meet
              case rel => exact ⟨_, rfl, fun _ => SM.out, Keeps.refl _ _⟩
          · have g2 : (e.n == 0) = false := by simp [t5]
            clear t4 t5
            go_wp2_with fail
            go_meet
            case rel => exact ⟨_, rfl, fun _ => SM.out, Keeps.refl _ _⟩
        · have g1 : (e.kind == 1) = false := by simp [t4]
          clear t4
          go_wp2_with fail
          go_meet
          case rel => exact ⟨_, rfl, fun _ => SM.out, Keeps.refl _ _⟩
      case rest =>
      obtain ⟨v, rfl, hv, hk⟩ := hcut
      have K3 := Lib.hid (K2.out.next hk)
      have HV := Lib.hid hv
      clear hv hk e0 e4 e8 e9 e10 e11 e18
      cases v with
      | true =>
        go_wp2_with fail
        go_ret
        exact ⟨false, rfl, fun h => (by cases h), K3.out⟩
      | false =>
        have HB := Lib.hid (show ∀ y ∈ xs.take (i + 1), SmallE y.p y.s y.q from fun y hy => by
          rw [HX.out] at hy
          rcases List.mem_append.1 hy with hy | hy
          · exact HA.out y hy
          · rw [List.mem_singleton.1 hy]; exact HV.out rfl)
        go_wp2_with fail
        go_roundw
        case rel => exact ⟨i + 1, Nat.succ_le_of_lt hlt, by go_num, HB.out, K3.out⟩
        case measure => exact meas_lt hlt rfl
    · obtain rfl : i = n := by omega
      have tk : decide ((i : Int) < (i : Int)) = false := by simp
      have HB := Lib.hid (show ∀ x ∈ xs, SmallE x.p x.s x.q from fun x hx => HA.out x (by rw [List.take_of_length_le (by have := HE.out.1; omega)]; exact hx))
      go_wp2_with fail
      go_ret
      exact ⟨true, rfl, fun _ => ⟨HM.out.2, HB.out⟩, K.out⟩
theorem small_many (a : Option Addr) (n c most : Nat) (xs : List EdH) (w : World) (hm : most ≤ 1000) (hn : most < n) : Calls Tryz.prog 8 #[.slice a n c, .int .i64 (most : Int)] w (SmallSays n most xs w) := by
  have d1 : decide ((n : Int) > (most : Int)) = true := by simp; omega
  have d2 : decide (most < n) = true := by simp; omega
  clear hm hn
  go_enter Tryz.func8, Tryz.ntmps8
  go_wp2_with fail
  go_ret
  exact ⟨false, rfl, fun h => (by cases h), Keeps.refl _ _⟩
/-- Are these edits that a play goes through with? -/
theorem small_any (a : Option Addr) (n c most : Nat) (xs : List EdH) (w : World) (hm : most ≤ 1000) (E : Eds w a n xs) : Calls Tryz.prog 8 #[.slice a n c, .int .i64 (most : Int)] w (SmallSays n most xs w) := by
  by_cases hn : most < n
  · exact small_many a n c most xs w hm hn
  by_cases h0 : n = 0
  · subst h0
    obtain rfl := List.eq_nil_of_length_eq_zero E.1
    exact small_zero a c most w hm
  obtain ⟨x, hx⟩ : ∃ x, xs[0]? = some x := ⟨_, List.getElem?_eq_getElem (by have := E.1; omega)⟩
  obtain ⟨b, off, rfl, -⟩ := E.2 0 x hx
  exact small_some b off n c most xs w hm (by omega) E
end Go.Proofs.YtfcpbpfemmdklaaGreat.Tr

/- Documents of sizes that no play goes through with. -/
namespace Go.Proofs.YtfcpbpfemmdklaaGreat.Tr
open Go.RowKit Go.Lib
set_option linter.unusedSimpArgs false
set_option linter.unusedVariables false

set_option maxRecDepth 100000 in
set_option maxHeartbeats 800000 in
theorem new19_any (x y : Int) (w : World) : Calls Tryz.prog 24 #[.int .i64 x, .int .i64 y] w fun en w' => ∃ p q r f, en = .returned (.tuple #[docR p q r, .int .i64 f]) ∧ Keeps none' w w' := by
  have CS := Lib.hid (fun w' => sized_any x y w')
  have R0 := Lib.hid (heap_alloc_new w (.cells #[.int .i64 0, .int .i64 0, .int .i64 0, .slice none 0 0] 29))
  have K0 := Lib.hid ((Keeps.refl none' w).alloc (.cells #[.int .i64 0, .int .i64 0, .int .i64 0, .slice none 0 0] 29))
  obtain ⟨Z, hZ⟩ : ∃ Z, Z = w.heap.size := ⟨_, rfl⟩
  have ZS := Lib.hid hZ
  rw [← hZ] at R0
  obtain ⟨⟨r0, r1, r2, r3⟩, rf⟩ := four_cells R0.out
  have f0 := rf 0
  have f1 := rf 1
  have f2 := rf 2
  have f3 := rf 3
  clear rf
  go_enter Tryz.func24, Tryz.ntmps24
  go_upto_region 1 with (fail)
  rw [← hZ]
  clear hZ
  generalize w.alloc (.cells #[.int .i64 0, .int .i64 0, .int .i64 0, .slice none 0 0] 29) = w1 at *
  go_wp2_with ((with_reducible refine (CS.out w1).mono ?_); rintro e w2 ⟨b, rfl, hw⟩; subst hw; cases b)
  all_goals
    refine bodyPost_ret (results_cell_row2 rfl _ _ Z 29 _ (0, 0) _ rfl (four_set R0.out _ _ _ _) Tryz.underlying29 rfl (by kernel_rfl)) rfl ?_
    exact ⟨_, _, _, _, rfl, keeps_set4 K0.out (by rw [ZS.out]; exact Nat.le_refl _) _ _ _ _⟩
set_option maxRecDepth 100000 in
set_option maxHeartbeats 3200000 in
theorem begun_gen (x y p q r f : Int) (w : World) (N1 : ∀ w', Calls Tryz.prog 23 #[.int .i64 x, .int .i64 y] w' fun e w'' => e = .returned (.tuple #[docV p q r Hd.nil, .int .i64 f]) ∧ Keeps none' w' w'') (hout : ¬ (f = 0 ∧ x ≤ 24 ∧ y ≤ 24)) : Calls Tryz.prog 7 #[.int .i64 x, .int .i64 y] w fun en w' => ∃ p q r p' q' r', en = .returned (.tuple #[docV p q r Hd.nil, docR p' q' r', .bool false]) ∧ Keeps none' w w' := by
  simp only [docV, Hd.nil] at N1
  have HN := Lib.hid N1
  have M1 := fun w' => new19_any x y w'
  simp only [docR] at M1
  have HM := Lib.hid M1
  have HO := Lib.hid hout
  clear N1 M1 hout
  have A0 := Lib.hid ((show ((w.alloc (.cells #[.int .i64 0, .int .i64 0, .int .i64 0, .slice none 0 0] 26)).alloc (.cells #[.int .i64 0, .int .i64 0, .int .i64 0, .slice none 0 0] 29)).heap[w.heap.size]? = some (.cells #[.int .i64 0, .int .i64 0, .int .i64 0, .slice none 0 0] 26 (0, 0)) from (((Keeps.refl none' (w.alloc (.cells #[.int .i64 0, .int .i64 0, .int .i64 0, .slice none 0 0] 26))).alloc _).later _ (lt_of_block (heap_alloc_new _ _))).trans (heap_alloc_new _ _)))
  have B0 := Lib.hid (heap_alloc_new (w.alloc (.cells #[.int .i64 0, .int .i64 0, .int .i64 0, .slice none 0 0] 26)) (.cells #[.int .i64 0, .int .i64 0, .int .i64 0, .slice none 0 0] 29))
  have K0 := Lib.hid (((Keeps.refl none' w).alloc (.cells #[.int .i64 0, .int .i64 0, .int .i64 0, .slice none 0 0] 26)).alloc (.cells #[.int .i64 0, .int .i64 0, .int .i64 0, .slice none 0 0] 29))
  have hs1 : (w.alloc (.cells #[.int .i64 0, .int .i64 0, .int .i64 0, .slice none 0 0] 26)).heap.size = w.heap.size + 1 := by simp
  rw [hs1] at B0
  clear hs1
  obtain ⟨A, hA⟩ : ∃ A, A = w.heap.size := ⟨_, rfl⟩
  obtain ⟨B, hB⟩ : ∃ B, B = A + 1 := ⟨_, rfl⟩
  rw [← hA] at A0 B0
  rw [← hB] at B0
  have nab : A ≠ B := by omega
  have nba : B ≠ A := by omega
  have AB := Lib.hid (And.intro (show w.heap.size ≤ A from by omega) (show w.heap.size ≤ B from by omega))
  go_enter Tryz.func7, Tryz.ntmps7
  go_upto_region 1 with (fail)
  rw [← hA, ← hB]
  clear hA hB
  generalize (w.alloc (.cells #[.int .i64 0, .int .i64 0, .int .i64 0, .slice none 0 0] 26)).alloc (.cells #[.int .i64 0, .int .i64 0, .int .i64 0, .slice none 0 0] 29) = w1 at *
  go_upto_region 2 with ((with_reducible refine (HN.out w1).mono ?_); rintro en w2 ⟨rfl, hk⟩; have K2 := Lib.hid hk; clear hk)
  have C3 := Lib.hid (heap_alloc_new w2 (.cells #[.int .i64 p, .int .i64 q, .int .i64 r, .slice none 0 0] 26))
  have K3 := Lib.hid (K2.out.alloc (.cells #[.int .i64 p, .int .i64 q, .int .i64 r, .slice none 0 0] 26))
  obtain ⟨C, hC⟩ : ∃ C, C = w2.heap.size := ⟨_, rfl⟩
  have NC := Lib.hid (show A < C ∧ B < C from by have h1 := K2.out.size; have h2 := lt_of_block A0.out; have h3 := lt_of_block B0.out; omega)
  rw [← hC] at C3
  rw [← hC]
  clear hC K2
  generalize w2.alloc (.cells #[.int .i64 p, .int .i64 q, .int .i64 r, .slice none 0 0] 26) = w3 at *
  go_upto_region 3 with ((with_reducible refine (HM.out w3).mono ?_); rintro en w4 ⟨p', q', r', f', rfl, hk⟩; have K4 := Lib.hid hk; clear hk)
  have D5 := Lib.hid (heap_alloc_new w4 (.cells #[.int .i64 p', .int .i64 q', .int .i64 r', .slice none 0 0] 29))
  have k5 := K4.out.alloc (.cells #[.int .i64 p', .int .i64 q', .int .i64 r', .slice none 0 0] 29)
  have C5 := Lib.hid ((k5.later C (lt_of_block C3.out)).trans C3.out)
  have A5 := Lib.hid (((K3.out.next k5).later A (lt_of_block A0.out)).trans A0.out)
  have B5 := Lib.hid (((K3.out.next k5).later B (lt_of_block B0.out)).trans B0.out)
  have K5 := Lib.hid (K0.out.next (K3.out.next k5))
  obtain ⟨D, hD⟩ : ∃ D, D = w4.heap.size := ⟨_, rfl⟩
  have ND := Lib.hid (show B < D from by have h1 := K3.out.size; have h2 := K4.out.size; have h3 := lt_of_block B0.out; omega)
  rw [← hD] at D5
  rw [← hD]
  clear hD k5 K4 K3 C3 A0 B0 K0
  generalize w4.alloc (.cells #[.int .i64 p', .int .i64 q', .int .i64 r', .slice none 0 0] 29) = w5 at *
  obtain ⟨⟨a0, a1, a2, a3⟩, af⟩ := four_cells A5.out
  obtain ⟨⟨b0, b1, b2, b3⟩, bf⟩ := four_cells B5.out
  obtain ⟨⟨c0, c1, c2, c3⟩, cf⟩ := four_cells C5.out
  obtain ⟨⟨e0, e1, e2, e3⟩, ef⟩ := four_cells D5.out
  have nac : A ≠ C := by have := NC.out.1; omega
  have nbc : B ≠ C := by
    rintro rfl
    have := B5.out.symm.trans C5.out
    simp at this
  have nad : A ≠ D := by
    rintro rfl
    have := A5.out.symm.trans D5.out
    simp at this
  have nbd : B ≠ D := by have := ND.out; omega
  have g0 := af 0
  have g1 := af 1
  have g2 := af 2
  have g3 := af 3
  have h0 := bf 0
  have h1 := bf 1
  have h2 := bf 2
  have h3 := bf 3
  clear af bf cf ef
  by_cases t1 : f = 0
  · have e1 : (f == 0) = true := by simpa using t1
    have e1' : decide (f = 0) = true := by simpa using t1
    by_cases t2 : f' = 0
    · have e2 : (f' == 0) = true := by simpa using t2
      have e2' : decide (f' = 0) = true := by simpa using t2
      by_cases t3 : x ≤ 24
      · have e3 : decide (x ≤ 24) = true := by simpa using t3
        have e4 : decide (y ≤ 24) = false := by have := HO.out; simp only [decide_eq_false_iff_not]; exact fun h => this ⟨t1, t3, h⟩
        clear t1 t2 t3
        go_region
        all_goals go_wp2_with fail
        have hA := four_set A5.out (.int .i64 p) (.int .i64 q) (.int .i64 r) (.slice none 0 0)
        have q1 := keeps_at4 w5 A (.int .i64 p) (.int .i64 q) (.int .i64 r) (.slice none 0 0)
        have k1 := keeps_set4 (Z := A) K5.out AB.out.1 (.int .i64 p) (.int .i64 q) (.int .i64 r) (.slice none 0 0)
        have hB1 := (q1.block B (lt_of_block B5.out) (fun e => nba e)).trans B5.out
        have hB := four_set hB1 (.int .i64 p') (.int .i64 q') (.int .i64 r') (.slice none 0 0)
        have q2 := keeps_at4 ((((w5.setCell ⟨A, 0, none⟩ (.int .i64 p)).setCell ⟨A, 1, none⟩ (.int .i64 q)).setCell ⟨A, 2, none⟩ (.int .i64 r)).setCell ⟨A, 3, none⟩ (.slice none 0 0)) B (.int .i64 p') (.int .i64 q') (.int .i64 r') (.slice none 0 0)
        have k2 := keeps_set4 (Z := B) k1 AB.out.2 (.int .i64 p') (.int .i64 q') (.int .i64 r') (.slice none 0 0)
        have hA2 := (q2.block A (lt_of_block hA) (fun e => nab e)).trans hA
        clear q1 k1 hB1 q2 hA A5 B5 C5 D5 K5 a0 a1 a2 a3 b0 b1 b2 b3 c0 c1 c2 c3 e0 e1 e2 e3 g0 g1 g2 g3 h0 h1 h2 h3 nab nba nac nbc nad nbd
        generalize ((((((((w5.setCell ⟨A, 0, none⟩ (.int .i64 p)).setCell ⟨A, 1, none⟩ (.int .i64 q)).setCell ⟨A, 2, none⟩ (.int .i64 r)).setCell ⟨A, 3, none⟩ (.slice none 0 0)).setCell ⟨B, 0, none⟩ (.int .i64 p')).setCell ⟨B, 1, none⟩ (.int .i64 q')).setCell ⟨B, 2, none⟩ (.int .i64 r')).setCell ⟨B, 3, none⟩ (.slice none 0 0)) = W2 at hB hA2 k2 ⊢
        have gA : W2.drew.heap[A]? = some (.cells #[.int .i64 p, .int .i64 q, .int .i64 r, .slice none 0 0] 26 (0, 0)) := hA2
        have gB : W2.drew.heap[B]? = some (.cells #[.int .i64 p', .int .i64 q', .int .i64 r', .slice none 0 0] 29 (0, 0)) := hB
        have gk := k2.drew
        clear hA2 hB k2
        generalize W2.drew = W3 at *
        refine bodyPost_ret (results_cells3 rfl _ _ A B 26 29 _ _ (0, 0) (0, 0) _ _ rfl rfl gA gB Tryz.underlying26 rfl (by kernel_rfl) Tryz.underlying29 rfl (by kernel_rfl)) rfl ?_
        exact ⟨p, q, r, p', q', r', rfl, gk⟩

      · have e3 : decide (x ≤ 24) = false := by simpa using t3
        clear t1 t2 t3
        go_region
        all_goals go_wp2_with fail
        have hA := four_set A5.out (.int .i64 p) (.int .i64 q) (.int .i64 r) (.slice none 0 0)
        have q1 := keeps_at4 w5 A (.int .i64 p) (.int .i64 q) (.int .i64 r) (.slice none 0 0)
        have k1 := keeps_set4 (Z := A) K5.out AB.out.1 (.int .i64 p) (.int .i64 q) (.int .i64 r) (.slice none 0 0)
        have hB1 := (q1.block B (lt_of_block B5.out) (fun e => nba e)).trans B5.out
        have hB := four_set hB1 (.int .i64 p') (.int .i64 q') (.int .i64 r') (.slice none 0 0)
        have q2 := keeps_at4 ((((w5.setCell ⟨A, 0, none⟩ (.int .i64 p)).setCell ⟨A, 1, none⟩ (.int .i64 q)).setCell ⟨A, 2, none⟩ (.int .i64 r)).setCell ⟨A, 3, none⟩ (.slice none 0 0)) B (.int .i64 p') (.int .i64 q') (.int .i64 r') (.slice none 0 0)
        have k2 := keeps_set4 (Z := B) k1 AB.out.2 (.int .i64 p') (.int .i64 q') (.int .i64 r') (.slice none 0 0)
        have hA2 := (q2.block A (lt_of_block hA) (fun e => nab e)).trans hA
        clear q1 k1 hB1 q2 hA A5 B5 C5 D5 K5 a0 a1 a2 a3 b0 b1 b2 b3 c0 c1 c2 c3 e0 e1 e2 e3 g0 g1 g2 g3 h0 h1 h2 h3 nab nba nac nbc nad nbd
        generalize ((((((((w5.setCell ⟨A, 0, none⟩ (.int .i64 p)).setCell ⟨A, 1, none⟩ (.int .i64 q)).setCell ⟨A, 2, none⟩ (.int .i64 r)).setCell ⟨A, 3, none⟩ (.slice none 0 0)).setCell ⟨B, 0, none⟩ (.int .i64 p')).setCell ⟨B, 1, none⟩ (.int .i64 q')).setCell ⟨B, 2, none⟩ (.int .i64 r')).setCell ⟨B, 3, none⟩ (.slice none 0 0)) = W2 at hB hA2 k2 ⊢
        have gA : W2.drew.heap[A]? = some (.cells #[.int .i64 p, .int .i64 q, .int .i64 r, .slice none 0 0] 26 (0, 0)) := hA2
        have gB : W2.drew.heap[B]? = some (.cells #[.int .i64 p', .int .i64 q', .int .i64 r', .slice none 0 0] 29 (0, 0)) := hB
        have gk := k2.drew
        clear hA2 hB k2
        generalize W2.drew = W3 at *
        refine bodyPost_ret (results_cells3 rfl _ _ A B 26 29 _ _ (0, 0) (0, 0) _ _ rfl rfl gA gB Tryz.underlying26 rfl (by kernel_rfl) Tryz.underlying29 rfl (by kernel_rfl)) rfl ?_
        exact ⟨p, q, r, p', q', r', rfl, gk⟩

    · have e2 : (f' == 0) = false := by simpa using t2
      have e2' : decide (f' = 0) = false := by simpa using t2
      clear t1 t2
      go_region
      all_goals go_wp2_with fail
      have hA := four_set A5.out (.int .i64 p) (.int .i64 q) (.int .i64 r) (.slice none 0 0)
      have q1 := keeps_at4 w5 A (.int .i64 p) (.int .i64 q) (.int .i64 r) (.slice none 0 0)
      have k1 := keeps_set4 (Z := A) K5.out AB.out.1 (.int .i64 p) (.int .i64 q) (.int .i64 r) (.slice none 0 0)
      have hB1 := (q1.block B (lt_of_block B5.out) (fun e => nba e)).trans B5.out
      have hB := four_set hB1 (.int .i64 p') (.int .i64 q') (.int .i64 r') (.slice none 0 0)
      have q2 := keeps_at4 ((((w5.setCell ⟨A, 0, none⟩ (.int .i64 p)).setCell ⟨A, 1, none⟩ (.int .i64 q)).setCell ⟨A, 2, none⟩ (.int .i64 r)).setCell ⟨A, 3, none⟩ (.slice none 0 0)) B (.int .i64 p') (.int .i64 q') (.int .i64 r') (.slice none 0 0)
      have k2 := keeps_set4 (Z := B) k1 AB.out.2 (.int .i64 p') (.int .i64 q') (.int .i64 r') (.slice none 0 0)
      have hA2 := (q2.block A (lt_of_block hA) (fun e => nab e)).trans hA
      clear q1 k1 hB1 q2 hA A5 B5 C5 D5 K5 a0 a1 a2 a3 b0 b1 b2 b3 c0 c1 c2 c3 e0 e1 e2 e3 g0 g1 g2 g3 h0 h1 h2 h3 nab nba nac nbc nad nbd
      generalize ((((((((w5.setCell ⟨A, 0, none⟩ (.int .i64 p)).setCell ⟨A, 1, none⟩ (.int .i64 q)).setCell ⟨A, 2, none⟩ (.int .i64 r)).setCell ⟨A, 3, none⟩ (.slice none 0 0)).setCell ⟨B, 0, none⟩ (.int .i64 p')).setCell ⟨B, 1, none⟩ (.int .i64 q')).setCell ⟨B, 2, none⟩ (.int .i64 r')).setCell ⟨B, 3, none⟩ (.slice none 0 0)) = W2 at hB hA2 k2 ⊢
      have gA : W2.drew.heap[A]? = some (.cells #[.int .i64 p, .int .i64 q, .int .i64 r, .slice none 0 0] 26 (0, 0)) := hA2
      have gB : W2.drew.heap[B]? = some (.cells #[.int .i64 p', .int .i64 q', .int .i64 r', .slice none 0 0] 29 (0, 0)) := hB
      have gk := k2.drew
      clear hA2 hB k2
      generalize W2.drew = W3 at *
      refine bodyPost_ret (results_cells3 rfl _ _ A B 26 29 _ _ (0, 0) (0, 0) _ _ rfl rfl gA gB Tryz.underlying26 rfl (by kernel_rfl) Tryz.underlying29 rfl (by kernel_rfl)) rfl ?_
      exact ⟨p, q, r, p', q', r', rfl, gk⟩

  · have e1 : (f == 0) = false := by simpa using t1
    have e1' : decide (f = 0) = false := by simpa using t1
    clear t1
    go_region
    all_goals go_wp2_with fail
    have hA := four_set A5.out (.int .i64 p) (.int .i64 q) (.int .i64 r) (.slice none 0 0)
    have q1 := keeps_at4 w5 A (.int .i64 p) (.int .i64 q) (.int .i64 r) (.slice none 0 0)
    have k1 := keeps_set4 (Z := A) K5.out AB.out.1 (.int .i64 p) (.int .i64 q) (.int .i64 r) (.slice none 0 0)
    have hB1 := (q1.block B (lt_of_block B5.out) (fun e => nba e)).trans B5.out
    have hB := four_set hB1 (.int .i64 p') (.int .i64 q') (.int .i64 r') (.slice none 0 0)
    have q2 := keeps_at4 ((((w5.setCell ⟨A, 0, none⟩ (.int .i64 p)).setCell ⟨A, 1, none⟩ (.int .i64 q)).setCell ⟨A, 2, none⟩ (.int .i64 r)).setCell ⟨A, 3, none⟩ (.slice none 0 0)) B (.int .i64 p') (.int .i64 q') (.int .i64 r') (.slice none 0 0)
    have k2 := keeps_set4 (Z := B) k1 AB.out.2 (.int .i64 p') (.int .i64 q') (.int .i64 r') (.slice none 0 0)
    have hA2 := (q2.block A (lt_of_block hA) (fun e => nab e)).trans hA
    clear q1 k1 hB1 q2 hA A5 B5 C5 D5 K5 a0 a1 a2 a3 b0 b1 b2 b3 c0 c1 c2 c3 e0 e1 e2 e3 g0 g1 g2 g3 h0 h1 h2 h3 nab nba nac nbc nad nbd
    generalize ((((((((w5.setCell ⟨A, 0, none⟩ (.int .i64 p)).setCell ⟨A, 1, none⟩ (.int .i64 q)).setCell ⟨A, 2, none⟩ (.int .i64 r)).setCell ⟨A, 3, none⟩ (.slice none 0 0)).setCell ⟨B, 0, none⟩ (.int .i64 p')).setCell ⟨B, 1, none⟩ (.int .i64 q')).setCell ⟨B, 2, none⟩ (.int .i64 r')).setCell ⟨B, 3, none⟩ (.slice none 0 0)) = W2 at hB hA2 k2 ⊢
    have gA : W2.drew.heap[A]? = some (.cells #[.int .i64 p, .int .i64 q, .int .i64 r, .slice none 0 0] 26 (0, 0)) := hA2
    have gB : W2.drew.heap[B]? = some (.cells #[.int .i64 p', .int .i64 q', .int .i64 r', .slice none 0 0] 29 (0, 0)) := hB
    have gk := k2.drew
    clear hA2 hB k2
    generalize W2.drew = W3 at *
    refine bodyPost_ret (results_cells3 rfl _ _ A B 26 29 _ _ (0, 0) (0, 0) _ _ rfl rfl gA gB Tryz.underlying26 rfl (by kernel_rfl) Tryz.underlying29 rfl (by kernel_rfl)) rfl ?_
    exact ⟨p, q, r, p', q', r', rfl, gk⟩

theorem begun_out (x y : Int) (w : World) (ho : ¬ ((1 ≤ x ∧ x ≤ 24) ∧ (1 ≤ y ∧ y ≤ 24))) : Calls Tryz.prog 7 #[.int .i64 x, .int .i64 y] w fun en w' => ∃ p q r p' q' r', en = .returned (.tuple #[docV p q r Hd.nil, docR p' q' r', .bool false]) ∧ Keeps none' w w' := by
  cases ha : areaP x y with
  | true =>
    refine begun_gen x y x y 1 0 w (fun w' => ?_) (fun h => ho ?_)
    · have := new7 x y w'
      rw [ha, if_pos rfl] at this
      exact this
    · simp only [areaP, sideP, Bool.and_eq_true, decide_eq_true_eq] at ha
      exact ⟨⟨by omega, h.2.1⟩, ⟨by omega, h.2.2⟩⟩
  | false =>
    refine begun_gen x y 0 0 0 31 w (fun w' => ?_) (fun h => ?_)
    · have := new7 x y w'
      rw [ha] at this
      exact this
    · exact absurd h.1 (by decide)
end Go.Proofs.YtfcpbpfemmdklaaGreat.Tr

/- A layer that is moved, and moved back: plain. -/
namespace Go.Proofs.YtfcpbpfemmdklaaGreat.Tr
open Go.RowKit Go.Lib
set_option linter.unusedSimpArgs false
set_option linter.unusedVariables false

theorem go_pre (id : Int) : ∀ (pre : List Lay) (K : List PFrm) (pre0 rest : List Lay), (∀ d ∈ dats pre, d.id ≠ id) → go id K pre0 (pre ++ rest) = go id K (pre0 ++ pre) rest
  | [], K, pre0, rest, _ => by rw [List.nil_append, List.append_nil]
  | .mk e es :: pre, K, pre0, rest, h => by
    rw [dats] at h
    have h1 : e.id ≠ id := h e (by simp)
    have h2 : go id (⟨pre0, e, pre ++ rest⟩ :: K) [] es = none := (go_none id _ es (Nat.le_refl _) _ _).2 (fun d hd => h d (by simp [hd]))
    rw [List.cons_append, go, if_neg h1, h2]
    simp only
    refine (go_pre id pre K (pre0 ++ [.mk e es]) rest (fun d hd => h d (by simp [hd]))).trans ?_
    rw [List.append_assoc]
    rfl
theorem go_plugC (id : Int) (r : At') : ∀ (C : List PFrm) (xs : List Lay) (K : List PFrm), (∀ d ∈ datsC C, d.id ≠ id) → go id (C ++ K) [] xs = some r → go id K [] (plugP C xs) = some r
  | [], xs, K, _, h => h
  | f :: C, xs, K, hd, h => by
    rw [plugP]
    rw [datsC] at hd
    refine go_plugC id r C _ K (fun d hm => hd d (by simp [hm])) ?_
    rw [go_pre id f.pre _ [] _ (fun d hm => hd d (by simp [hm])), List.nil_append, go, if_neg (hd f.d (by simp))]
    have e : (⟨f.pre, f.d, f.post⟩ : PFrm) = f := rfl
    rw [e]
    rw [List.cons_append] at h
    rw [h]
theorem dats_at (C : List PFrm) (pre : List Lay) (d : Dat) (ks post : List Lay) : (dats (plugP C (pre ++ .mk d ks :: post))).Perm (d :: (dats pre ++ (dats ks ++ dats post) ++ datsC C)) := by
  refine (dats_plug C _).trans ?_
  rw [dats_append, dats]
  classical
  rw [List.perm_iff_count]
  intro u
  simp only [List.count_append, List.count_cons]
  omega
/-- A layer is found where it stands. -/
theorem fnd_here {C : List PFrm} {pre : List Lay} {d : Dat} {ks post : List Lay} (N : ((dats (plugP C (pre ++ .mk d ks :: post))).map (·.id)).Nodup) : fnd d.id (plugP C (pre ++ .mk d ks :: post)) = some ⟨C, pre, d, ks, post⟩ := by
  have p := dats_at C pre d ks post
  rw [(p.map _).nodup_iff, List.map_cons, List.nodup_cons] at N
  have ne : ∀ u, (u ∈ dats pre ∨ u ∈ datsC C) → u.id ≠ d.id := fun u hu e => N.1 (List.mem_map.2 ⟨u, by rcases hu with h | h <;> simp [h], e⟩)
  unfold fnd
  refine go_plugC d.id _ C _ [] (fun u hu => ne u (.inr hu)) ?_
  rw [List.append_nil, go_pre d.id pre C [] _ (fun u hu => ne u (.inl hu)), List.nil_append, go, if_pos rfl]
theorem home_at {P : Nat → Dat → Prop} {C : List PFrm} {xs : List Lay} (N : ((dats (plugP C xs)).map (·.id)).Nodup) (c : CtxN P C) (h1 : ∀ d ∈ datsC C, 1 ≤ d.id) : homeP (pidOf C) (plugP C xs) = .ok (C, xs) := by
  cases C with
  | nil => unfold homeP pidOf; rw [if_pos rfl, plugP]
  | cons f C =>
    rw [plugP] at N ⊢
    rw [CtxN] at c
    have hf : fnd f.d.id (plugP C (f.pre ++ .mk f.d xs :: f.post)) = some ⟨C, f.pre, f.d, xs, f.post⟩ := fnd_here N
    have h2 : f.d.id ≠ 0 := by have := h1 f.d (by rw [datsC]; simp); omega
    unfold homeP
    have hp : pidOf (f :: C) = f.d.id := rfl
    rw [hp, if_neg h2, hf]
    simp only
    rw [if_pos c.2.1.2]
/-- How many kids each layer has. -/
def nk : List Lay → List (Dat × Nat)
  | [] => []
  | .mk d kids :: ls => (d, kids.length) :: (nk kids ++ nk ls)
theorem nk_append : ∀ (xs ys : List Lay), nk (xs ++ ys) = nk xs ++ nk ys
  | [], ys => by rw [nk]; rfl
  | .mk d kids :: xs, ys => by rw [List.cons_append, nk, nk, nk_append xs ys, List.cons_append, List.append_assoc]
def nkC : List PFrm → Nat → List (Dat × Nat)
  | [], _ => []
  | f :: C, n => (nk f.pre ++ ((f.d, n) :: nk f.post)) ++ nkC C (f.pre.length + 1 + f.post.length)
theorem nk_plug : ∀ (C : List PFrm) (xs : List Lay), (nk (plugP C xs)).Perm (nk xs ++ nkC C xs.length)
  | [], xs => by rw [plugP, nkC, List.append_nil]
  | f :: C, xs => by
    rw [plugP]
    refine (nk_plug C _).trans ?_
    rw [nk_append, nk, nkC, List.length_append, List.length_cons, show f.pre.length + (f.post.length + 1) = f.pre.length + 1 + f.post.length by omega]
    classical
    rw [List.perm_iff_count]
    intro a
    simp only [List.count_append, List.count_cons]
    omega
def rootLen : List PFrm → Nat → Nat
  | [], n => n
  | f :: C, _ => rootLen C (f.pre.length + 1 + f.post.length)
theorem root_len : ∀ (C : List PFrm) (xs : List Lay), (plugP C xs).length = rootLen C xs.length
  | [], xs => rfl
  | f :: C, xs => by
    rw [plugP, root_len C, rootLen, List.length_append, List.length_cons, show f.pre.length + (f.post.length + 1) = f.pre.length + 1 + f.post.length by omega]
theorem nk_dats (n : Nat) : ∀ (ls : List Lay), SizeOf.sizeOf ls ≤ n → (nk ls).map (·.1) = dats ls := by
  induction n with
  | zero => intro ls h; cases ls <;> simp at h
  | succ n ih =>
    intro ls h
    match ls, h with
    | [], h => rw [nk, dats]; rfl
    | .mk d kids :: ls, h =>
      simp only [List.cons.sizeOf_spec, Lay.mk.sizeOf_spec] at h
      rw [nk, dats, List.map_cons, List.map_append, ih kids (by omega), ih ls (by omega)]
theorem key_uniq {α : Type} (f : α → Int) : ∀ (l : List α), (l.map f).Nodup → ∀ x ∈ l, ∀ y ∈ l, f x = f y → x = y := by
  intro l
  induction l with
  | nil => intro _ x hx; cases hx
  | cons u l ih =>
    intro hn x hx y hy exy
    rw [List.map_cons, List.nodup_cons] at hn
    have h1 := List.mem_cons.1 hx
    have h2 := List.mem_cons.1 hy
    clear hx hy
    rcases h1 with e1 | h1
    · rcases h2 with e2 | h2
      · rw [e1, e2]
      · exact (hn.1 (List.mem_map.2 ⟨y, h2, by rw [← e1]; exact exy.symm⟩)).elim
    · rcases h2 with e2 | h2
      · exact (hn.1 (List.mem_map.2 ⟨x, h1, by rw [← e2]; exact exy⟩)).elim
      · exact ih hn.2 x h1 y h2 exy
theorem nk_uniq {ls : List Lay} (h : ((dats ls).map (·.id)).Nodup) {m m' : Nat} {d d' : Dat} (a : (d, m) ∈ nk ls) (b : (d', m') ∈ nk ls) (e : d.id = d'.id) : m = m' := by
  rw [← nk_dats _ ls (Nat.le_refl _), List.map_map] at h
  exact congrArg (·.2) (key_uniq (fun x : Dat × Nat => x.1.id) _ h _ a _ b e)
theorem fnd_nk {id : Int} {ls : List Lay} {r : At'} (h : fnd id ls = some r) : (r.d, r.kids.length) ∈ nk ls := by
  have e := (fnd_plug h).1
  rw [← e]
  refine (nk_plug r.C _).mem_iff.2 ?_
  rw [nk_append, nk]
  simp
theorem insAt_split (at_ : Int) (l : Lay) (ls : List Lay) : ∃ a b, ls = a ++ b ∧ insAt at_ l ls = a ++ l :: b := by
  unfold insAt
  split
  · exact ⟨ls, [], by simp, rfl⟩
  · exact ⟨_, _, (List.take_append_drop at_.toNat ls).symm, rfl⟩
theorem allN_dps {R : Dat → Prop} : ∀ (k n : Nat) (ls : List Lay), SizeOf.sizeOf ls ≤ k → AllN (Deep64 R) n ls → ∀ m ∈ dps n ls, m ≤ 64
  | 0, n, ls, h, _, _, _ => by cases ls <;> simp at h
  | k + 1, n, [], h, _, m, hm => by rw [dps] at hm; cases hm
  | k + 1, n, .mk d kids :: ls, h, A, m, hm => by
    simp only [List.cons.sizeOf_spec, Lay.mk.sizeOf_spec] at h
    rw [AllN] at A
    rw [dps] at hm
    rcases List.mem_cons.1 hm with rfl | hm
    · exact A.1.1.1
    rcases List.mem_append.1 hm with hm | hm
    · exact allN_dps k (n + 1) kids (by omega) A.2.1 m hm
    · exact allN_dps k n ls (by omega) A.2.2 m hm
theorem foldl_le_of : ∀ (l : List Nat) (n b : Nat), n ≤ b → (∀ m ∈ l, m ≤ b) → l.foldl max n ≤ b
  | [], n, b, h, _ => h
  | a :: l, n, b, h, H => by
    rw [List.foldl_cons]
    exact foldl_le_of l (max n a) b (by have := H a (by simp); omega) (fun m hm => H m (by simp [hm]))
theorem height_le {R : Dat → Prop} {c k : Nat} {kids : List Lay} (hc : c + 1 ≤ 64) (A : AllN (Deep64 R) (c + 1) kids) : c + heightP k kids ≤ 64 := by
  have h0 : dps (c + 1) kids = (dps 0 kids).map (· + (c + 1)) := by
    have := dps_shift (c + 1) _ 0 kids (Nat.le_refl _)
    rwa [Nat.zero_add] at this
  have h1 : dps (k + 1) kids = (dps 0 kids).map (· + (k + 1)) := by
    have := dps_shift (k + 1) _ 0 kids (Nat.le_refl _)
    rwa [Nat.zero_add] at this
  have h2 := allN_dps _ _ _ (Nat.le_refl _) A
  have h3 : deepP (k + 1) kids ≤ k + (64 - c) := by
    unfold deepP
    refine foldl_le_of _ _ _ ?_ ?_
    all_goals first
      | omega
      | (intro m hm
         rw [h1] at hm
         obtain ⟨a, ha, rfl⟩ := List.mem_map.1 hm
         have := h2 (a + (c + 1)) (by rw [h0]; exact List.mem_map.2 ⟨a, ha, rfl⟩)
         show a + (k + 1) ≤ _
         omega)
  unfold heightP
  omega
/-- A layer that was moved can be moved back to where it stood. -/
theorem move_back {R : Dat → Prop} {z : Int} {ls ls' : List Lay} {id to at_ : Int} {r : At'} (I : Inv R z ls) (h : fnd id ls = some r) (e : moveP ls id to at_ = .ok ls') : moveP ls' id (pidOf r.C) (r.pre.length : Int) = .ok ls := by
  have G' := (good_move I.good e).1
  have p' := (good_move I.good e).2
  unfold moveP at e
  rw [h] at e
  simp only at e
  split at e
  · cases e
  rename_i C kids hh
  generalize ((kids.length : Int) - (if pidOf r.C = pidOf C then 1 else 0)) = room at e
  split at e
  · cases e
  split at e
  · cases e
  split at e
  · cases e
  split at e
  · cases e
  rename_i C' kids' hh'
  cases e
  have hid := (fnd_plug h).2
  have els := (fnd_plug h).1
  obtain ⟨c, al⟩ := fndN h I.all
  rw [allN_append, AllN] at al
  obtain ⟨-, ⟨⟨al1, -⟩, -⟩, al2, -⟩ := al
  obtain ⟨M, hM⟩ : ∃ M, M = plugP r.C (r.pre ++ r.post) := ⟨_, rfl⟩
  have pM := dats_rest h
  rw [← hM] at pM hh'
  have N := I.good.nodup
  have N' := G'.nodup
  have pid : ((dats ls).map (·.id)).Perm ((dats M ++ r.d :: dats r.kids).map (·.id)) := pM.map _
  have N0 : ((dats M ++ r.d :: dats r.kids).map (·.id)).Nodup := pid.nodup_iff.1 N
  rw [List.map_append, List.nodup_append] at N0
  obtain ⟨NM, NL, ND⟩ := N0
  have far : ∀ u ∈ dats M, u.id ≠ r.d.id ∧ ∀ v ∈ dats r.kids, u.id ≠ v.id := fun u hu =>
    ⟨ND u.id (List.mem_map.2 ⟨u, hu, rfl⟩) r.d.id (by simp), fun v hv => ND u.id (List.mem_map.2 ⟨u, hu, rfl⟩) v.id (List.mem_map.2 ⟨v, by simp [hv], rfl⟩)⟩
  have mls : ∀ u ∈ dats M, u ∈ dats ls := fun u hu => pM.mem_iff.2 (List.mem_append.2 (.inl hu))
  have hplug := (homeP_plug hh').1
  obtain ⟨a, b, e1, e2⟩ := insAt_split at_ (.mk r.d r.kids) kids'
  rw [e2] at N' G' p' ⊢
  rw [e1] at hplug
  obtain ⟨ls', hls'⟩ : ∃ ls', ls' = plugP C' (a ++ .mk r.d r.kids :: b) := ⟨_, rfl⟩
  have f1 : fnd id ls' = some ⟨C', a, r.d, r.kids, b⟩ := by rw [hls', ← hid]; exact fnd_here N'
  have mls' : ∀ u ∈ dats M, u ∈ dats ls' := fun u hu => by rw [hls']; exact p'.mem_iff.2 (mls u hu)
  have hC1 : ∀ d ∈ datsC r.C, 1 ≤ d.id := fun d hd => (I.good.range d (mls d (by rw [hM]; exact (dats_plug r.C _).mem_iff.2 (List.mem_append.2 (.inr hd))))).1
  have NMM := NM
  rw [hM] at NMM
  have hback : homeP (pidOf r.C) M = .ok (r.C, r.pre ++ r.post) := by rw [hM]; exact home_at NMM c hC1
  -- the home in the document where the layer stands elsewhere
  have hhome : ∃ C2 kids2, homeP (pidOf r.C) ls' = .ok (C2, kids2) ∧ C2.length = r.C.length ∧ (r.pre.length : Int) ≤ (kids2.length : Int) - (if pidOf C' = pidOf C2 then 1 else 0) := by
    cases hrc : r.C with
    | nil =>
      have hM2 : M = r.pre ++ r.post := by rw [hM, hrc, plugP]
      refine ⟨[], ls', by unfold homeP pidOf; rw [if_pos rfl], rfl, ?_⟩
      have l1 : ls'.length = rootLen C' ((a ++ b).length + 1) := by
        rw [hls', root_len, List.length_append, List.length_cons, List.length_append]
        rfl
      have l2 : M.length = rootLen C' (a ++ b).length := by rw [← hplug, root_len]
      have l3 : r.pre.length ≤ M.length := by rw [hM2, List.length_append]; omega
      cases C' with
      | nil =>
        rw [rootLen] at l1 l2
        split <;> omega
      | cons f' Ct' =>
        rw [rootLen] at l1 l2
        have hf' : 1 ≤ f'.d.id := (G'.range f'.d ((dats_plug _ _).mem_iff.2 (List.mem_append.2 (.inr (by rw [datsC]; simp))))).1
        have : ¬ pidOf (f' :: Ct') = pidOf [] := by
          show ¬ f'.d.id = 0
          omega
        rw [if_neg this]
        omega
    | cons f Ct =>
      have hfM : f.d ∈ dats M := by rw [hM, hrc]; exact (dats_plug _ _).mem_iff.2 (List.mem_append.2 (.inr (by rw [datsC]; simp)))
      have hf0 : f.d.id ≠ 0 := by have := (I.good.range f.d (mls _ hfM)).1; omega
      have hk1 : f.d.kind = 1 := by rw [hrc, CtxN] at c; exact c.2.1.2
      have Nls : ((dats ls').map (·.id)).Nodup := by rw [hls']; exact N'
      cases hf : fnd f.d.id ls' with
      | none => exact absurd rfl (fnd_none.1 hf _ (mls' _ hfM))
      | some r2 =>
        have e3 : r2.d = f.d := uniq_dat Nls (fnd_mem hf) (mls' _ hfM) (fnd_plug hf).2
        refine ⟨⟨r2.pre, r2.d, r2.post⟩ :: r2.C, r2.kids, ?_, ?_, ?_⟩
        · unfold homeP
          have hp : pidOf (f :: Ct) = f.d.id := rfl
          rw [hp, if_neg hf0, hf]
          simp only
          rw [if_pos (by rw [e3]; exact hk1)]
        · have m1 := fnd_nd hf
          have m2 : (Ct.length + 1, f.d) ∈ nd 0 M := by
            rw [hM, hrc]
            refine (nd_plug _ _).mem_iff.2 (List.mem_append.2 (.inr ?_))
            rw [ndC]
            simp
          have m3 : (Ct.length + 1, f.d) ∈ nd 0 ls' := by
            rw [← hplug] at m2
            have := (nd_plug C' (a ++ b)).mem_iff.1 m2
            rw [hls']
            refine (nd_plug C' _).mem_iff.2 ?_
            rw [nd_append] at this
            rw [nd_append, nd]
            simp only [List.mem_append, List.mem_cons] at this ⊢
            rcases this with (q | q) | q
            · exact .inl (.inl q)
            · exact .inl (.inr (.inr (.inr q)))
            · exact .inr q
          have := (nd_uniq Nls m1 m3 (by rw [e3])).1
          simp only [List.length_cons]
          omega
        · have q1 := fnd_nk hf
          rw [e3] at q1
          have q2 : (f.d, (r.pre ++ r.post).length) ∈ nk M := by
            rw [hM, hrc]
            refine (nk_plug _ _).mem_iff.2 (List.mem_append.2 (.inr ?_))
            rw [nkC]
            simp
          have q3 := q2
          rw [← hplug] at q3
          have q4 := (nk_plug C' (a ++ b)).mem_iff.1 q3
          have q5 : ∀ u, (u ∈ nk (a ++ b) ∨ u ∈ nkC C' ((a ++ b).length + 1)) → u ∈ nk ls' := fun u hu => by
            rw [hls']
            refine (nk_plug C' _).mem_iff.2 ?_
            rw [nk_append, nk, show (a ++ Lay.mk r.d r.kids :: b).length = (a ++ b).length + 1 from by simp; omega]
            rcases hu with hu | hu
            · rw [nk_append] at hu
              simp only [List.mem_append, List.mem_cons] at hu ⊢
              rcases hu with q | q
              · exact .inl (.inl q)
              · exact .inl (.inr (.inr (.inr q)))
            · exact List.mem_append.2 (.inr hu)
          have lp : r.pre.length ≤ (r.pre ++ r.post).length := by rw [List.length_append]; omega
          have hp2 : pidOf (⟨r2.pre, r2.d, r2.post⟩ :: r2.C) = f.d.id := by show r2.d.id = _; rw [e3]
          rw [hp2]
          cases C' with
          | nil =>
            have hne : ¬ pidOf ([] : List PFrm) = f.d.id := fun q => hf0 q.symm
            rw [if_neg hne]
            rw [nkC, List.append_nil] at q4
            have := nk_uniq Nls q1 (q5 _ (.inl q4)) rfl
            omega
          | cons f' Ct' =>
            by_cases hff : f'.d.id = f.d.id
            · have q6 : (f'.d, (a ++ b).length + 1) ∈ nk ls' := q5 _ (.inr (by rw [nkC]; simp))
              have q7 : (f'.d, (a ++ b).length) ∈ nk M := by
                rw [← hplug]
                refine (nk_plug _ _).mem_iff.2 (List.mem_append.2 (.inr ?_))
                rw [nkC]
                simp
              have i1 := nk_uniq Nls q1 q6 hff.symm
              have i2 := nk_uniq NM q2 q7 hff.symm
              split <;> omega
            · have hne : ¬ pidOf (f' :: Ct') = f.d.id := hff
              rw [if_neg hne]
              have q8 : (f.d, (r.pre ++ r.post).length) ∈ nk ls' := by
                rcases List.mem_append.1 q4 with q | q
                · exact q5 _ (.inl q)
                · refine q5 _ (.inr ?_)
                  rw [nkC] at q ⊢
                  simp only [List.mem_append, List.mem_cons] at q ⊢
                  rcases q with (q | q | q) | q
                  · exact .inl (.inl q)
                  · have : f.d = f'.d := congrArg (·.1) q
                    exact absurd (by rw [this]) hff
                  · exact .inl (.inr (.inr q))
                  · exact .inr q
              have := nk_uniq Nls q1 q8 rfl
              omega
  obtain ⟨C2, kids2, g1, g2, g3⟩ := hhome
  have ncyc : ¬ (r.d.id = pidOf r.C ∨ (fnd (pidOf r.C) r.kids).isSome = true) := by
    cases hrc : r.C with
    | nil =>
      rintro (q | q)
      · have := (I.good.range _ (fnd_mem h)).1
        have q' : r.d.id = 0 := q
        omega
      · have : fnd 0 r.kids = none := fnd_none.2 (fun u hu q0 => by
          have := (I.good.range u (pM.mem_iff.2 (by simp [hu]))).1
          omega)
        have q' : (fnd 0 r.kids).isSome = true := q
        rw [this] at q'
        cases q'
    | cons f Ct =>
      have hfM : f.d ∈ dats M := by rw [hM, hrc]; exact (dats_plug _ _).mem_iff.2 (List.mem_append.2 (.inr (by rw [datsC]; simp)))
      rintro (q | q)
      · exact (far _ hfM).1 (show f.d.id = r.d.id from q.symm)
      · have : fnd f.d.id r.kids = none := fnd_none.2 (fun u hu q0 => (far _ hfM).2 u hu q0.symm)
        have q' : (fnd f.d.id r.kids).isSome = true := q
        rw [this] at q'
        cases q'
  have hh2 := height_le (k := C'.length) (show r.C.length + 1 ≤ 64 from al1) al2
  rw [← hls']
  unfold moveP
  rw [f1]
  simp only
  rw [g1]
  simp only
  rw [if_neg ncyc, if_neg (by omega), if_neg (by omega), hplug, hback]
  simp only
  have e5 : insAt (r.pre.length : Int) (.mk r.d r.kids) (r.pre ++ r.post) = r.pre ++ .mk r.d r.kids :: r.post := by
    unfold insAt
    rw [if_neg (by omega), Int.toNat_natCast, List.take_left, List.drop_left]
  rw [e5, els]
end Go.Proofs.YtfcpbpfemmdklaaGreat.Tr

/- Parent, Count, Depth in plain words; the document's example. -/
namespace Go.Proofs.YtfcpbpfemmdklaaGreat.Tr
open Go.RowKit Go.Lib
set_option linter.unusedSimpArgs false
set_option linter.unusedVariables false

def parV (r : Option At') : Value := match r with
  | some r => .tuple #[.int .i64 (pidOf r.C), .int .i64 (r.pre.length : Int), .bool true]
  | none => .tuple #[.int .i64 0, .int .i64 0, .bool false]
theorem parent_any (x y z : Int) (h : Hd) (ls : List Loc) (id : Int) (w : World) (D : DocV w h ls) (hc : pcnt (er ls) ≤ 4096) :
    Calls Tryz.prog 13 #[docV x y z h, .int .i64 id] w fun e w' => e = .returned (parV (fnd id (er ls))) ∧ Keeps none' w w' := by
  refine (parent11 x y z h ls id w D (by rw [cnt_eq]; omega)).mono ?_
  rintro e w' ⟨R, he, k⟩
  refine ⟨?_, k⟩
  rcases find_doc id R h ls with ⟨a, b⟩ | ⟨C, pre, l, post, h', a1, a2, a3, a4⟩
  · rw [a] at he
    rw [b]
    exact he
  · rw [a1] at he
    rw [a2]
    unfold parV
    simp only [pid_er, er_length]
    exact he
theorem count_doc (x y z : Int) (h : Hd) (ls : List Loc) (w : World) (D : DocV w h ls) (hc : pcnt (er ls) ≤ 4096) :
    Calls Tryz.prog 15 #[docV x y z h] w fun e w' => e = .returned (.int .i64 (pcnt (er ls) : Int)) ∧ Keeps none' w w' := by
  refine (count14 x y z h ls w D (by rw [cnt_eq]; omega)).mono ?_
  rintro e w' ⟨he, k⟩
  exact ⟨by rw [he, cnt_eq], k⟩
theorem depth_doc (x y z : Int) (h : Hd) (ls : List Loc) (w : World) (D : DocV w h ls) (hc : pcnt (er ls) ≤ 4096) :
    Calls Tryz.prog 16 #[docV x y z h] w fun e w' => e = .returned (.int .i64 (deepP 0 (er ls) : Int)) ∧ Keeps none' w w' := by
  refine (depth15 x y z h ls w D (by rw [cnt_eq]; omega)).mono ?_
  rintro e w' ⟨R, he, k⟩
  exact ⟨by rw [he, deep_er], k⟩
/-- The example's trees. -/
def x1 : List Lay := [.mk (freshD 1 0 4 4) []]
def x2 : List Lay := [.mk (freshD 2 1 0 0) [], .mk (freshD 1 0 4 4) []]
def x3 : List Lay := [.mk (freshD 2 1 0 0) [.mk (freshD 1 0 4 4) []]]
theorem ax1 : addP 1 [] 0 (-1) 0 4 4 = .ok x1 := by
  simp [addP, areaP, sideP, homeP, plugP, insAt, pcnt, dats, x1]
theorem ax2 : addP 2 x1 0 0 1 0 0 = .ok x2 := by
  simp [addP, areaP, sideP, homeP, plugP, insAt, pcnt, dats, x1, x2]
theorem ax3 : moveP x2 1 2 (-1) = .ok x3 := by
  simp [moveP, homeP, fnd, go, plugP, insAt, x2, x3, freshD, pidOf, heightP, deepP, dps]
theorem ax4 : moveP x3 2 2 0 = .error 42 := by
  simp [moveP, homeP, fnd, go, plugP, insAt, x2, x3, freshD, pidOf, heightP, deepP, dps]
theorem gx0 : Good 1 [] := ⟨by simp [dats], fun d hd => (by rw [dats] at hd; cases hd), by simp [pcnt, dats], by omega⟩
theorem gx1 : Good 2 x1 := (good_add gx0 ax1).1
theorem gx2 : Good 3 x2 := (good_add gx1 ax2).1
theorem gx3 : Good 3 x3 := (good_move gx2 ax3).1
theorem parx3 : parV (fnd 1 x3) = .tuple #[.int .i64 2, .int .i64 0, .bool true] := by
  simp [parV, fnd, go, x3, freshD, pidOf]
theorem nx3 : pcnt x3 = 2 := by simp [pcnt, dats, x3]
theorem dx3 : deepP 0 x3 = 2 := by simp [deepP, dps, x3]
theorem dx2 : deepP 0 x2 = 1 := by simp [deepP, dps, x2]
/-- An edit that adds or moves. -/
def ed (kind id to at_ n w h : Int) : PEd := ⟨kind, id, to, at_, n, 0, 0, 0, w, h, [], [], 0, 0, 0, 0, 0, 0, []⟩
theorem add_ok {x y z : Int} {h : Hd} {ls : List Loc} {ls' : List Lay} (to at_ n ww hh : Int) (w : World) (D : DocV w h ls) (G : Good z (er ls)) (hz : z ≤ 4611686018427387904) (e : addP z (er ls) to at_ n ww hh = .ok ls') :
    Calls Tryz.prog 9 #[docV x y z h, edV (ed 1 0 to at_ n ww hh) Hd.nil Hd.nil Hd.nil] w fun en w' => ∃ h' lsL, en = .returned (.tuple #[docV x y (z + 1) h', .int .i64 0]) ∧ er lsL = ls' ∧ NewD w.heap.size w' h' lsL ∧ Keeps none' w w' := by
  refine (doAdd x y z h ls (ed 1 0 to at_ n ww hh) Hd.nil Hd.nil Hd.nil w D G hz rfl).mono ?_
  intro en w' hd
  have e' : addP z (er ls) (ed 1 0 to at_ n ww hh).to (ed 1 0 to at_ n ww hh).at_ (ed 1 0 to at_ n ww hh).n (ed 1 0 to at_ n ww hh).w (ed 1 0 to at_ n ww hh).h = .ok ls' := e
  rw [e'] at hd
  exact hd
theorem add_bad {x y z : Int} {h : Hd} {ls : List Loc} {f : Int} (to at_ n ww hh : Int) (w : World) (D : DocV w h ls) (G : Good z (er ls)) (hz : z ≤ 4611686018427387904) (e : addP z (er ls) to at_ n ww hh = .error f) :
    Calls Tryz.prog 9 #[docV x y z h, edV (ed 1 0 to at_ n ww hh) Hd.nil Hd.nil Hd.nil] w fun en w' => en = .returned (.tuple #[docV 0 0 0 Hd.nil, .int .i64 f]) ∧ Keeps none' w w' := by
  refine (doAdd x y z h ls (ed 1 0 to at_ n ww hh) Hd.nil Hd.nil Hd.nil w D G hz rfl).mono ?_
  intro en w' hd
  have e' : addP z (er ls) (ed 1 0 to at_ n ww hh).to (ed 1 0 to at_ n ww hh).at_ (ed 1 0 to at_ n ww hh).n (ed 1 0 to at_ n ww hh).w (ed 1 0 to at_ n ww hh).h = .error f := e
  rw [e'] at hd
  exact hd
theorem move_ok {x y z : Int} {h : Hd} {ls : List Loc} {ls' : List Lay} (id to at_ : Int) (w : World) (D : DocV w h ls) (G : Good z (er ls)) (e : moveP (er ls) id to at_ = .ok ls') :
    Calls Tryz.prog 9 #[docV x y z h, edV (ed 3 id to at_ 0 0 0) Hd.nil Hd.nil Hd.nil] w fun en w' => ∃ h' lsL, en = .returned (.tuple #[docV x y z h', .int .i64 0]) ∧ er lsL = ls' ∧ NewD w.heap.size w' h' lsL ∧ Keeps none' w w' := by
  refine (doMove x y z h ls (ed 3 id to at_ 0 0 0) Hd.nil Hd.nil Hd.nil w D G rfl).mono ?_
  intro en w' hd
  have e' : moveP (er ls) (ed 3 id to at_ 0 0 0).id (ed 3 id to at_ 0 0 0).to (ed 3 id to at_ 0 0 0).at_ = .ok ls' := e
  rw [e'] at hd
  exact hd
theorem move_bad {x y z : Int} {h : Hd} {ls : List Loc} {f : Int} (id to at_ : Int) (w : World) (D : DocV w h ls) (G : Good z (er ls)) (e : moveP (er ls) id to at_ = .error f) :
    Calls Tryz.prog 9 #[docV x y z h, edV (ed 3 id to at_ 0 0 0) Hd.nil Hd.nil Hd.nil] w fun en w' => en = .returned (.tuple #[docV 0 0 0 Hd.nil, .int .i64 f]) ∧ Keeps none' w w' := by
  refine (doMove x y z h ls (ed 3 id to at_ 0 0 0) Hd.nil Hd.nil Hd.nil w D G rfl).mono ?_
  intro en w' hd
  have e' : moveP (er ls) (ed 3 id to at_ 0 0 0).id (ed 3 id to at_ 0 0 0).to (ed 3 id to at_ 0 0 0).at_ = .error f := e
  rw [e'] at hd
  exact hd
theorem doc_nil (w : World) : DocV w Hd.nil [] := ⟨⟨by rw [flat]; exact Cells.nil 19 w, by show 0 ≤ _; omega⟩, by unfold Rep; rw [All]; trivial⟩
/-- A law's end: true, and the old memory as it was. -/
def Yes (w : World) (e : Ending) (w' : World) : Prop := e = .returned (.bool true) ∧ Keeps none' w w'
/-- A document's variable, written over. -/
theorem set_doc {w w3 : World} {A B : Nat} {x y z x' y' z' : Int} {h0 h : Hd} {l : List Loc} (A3 : Dc w3 A x y z h0) (n : NewD B w3 h l) (hAB : A < B) (k : Keeps none' w w3) (hA : w.heap.size ≤ A) :
    Dc ((((w3.setCell ⟨A, 0, none⟩ (.int .i64 x')).setCell ⟨A, 1, none⟩ (.int .i64 y')).setCell ⟨A, 2, none⟩ (.int .i64 z')).setCell ⟨A, 3, none⟩ (.slice h.a h.n h.c)) A x' y' z' h ∧
    NewD B ((((w3.setCell ⟨A, 0, none⟩ (.int .i64 x')).setCell ⟨A, 1, none⟩ (.int .i64 y')).setCell ⟨A, 2, none⟩ (.int .i64 z')).setCell ⟨A, 3, none⟩ (.slice h.a h.n h.c)) h l ∧
    Keeps none' w ((((w3.setCell ⟨A, 0, none⟩ (.int .i64 x')).setCell ⟨A, 1, none⟩ (.int .i64 y')).setCell ⟨A, 2, none⟩ (.int .i64 z')).setCell ⟨A, 3, none⟩ (.slice h.a h.n h.c)) :=
  ⟨four_set A3 _ _ _ _, n.keep (keeps_at4 w3 A _ _ _ _) (fun b hb e => by have e' : b = A := e; have := (n.range b hb).1; omega), keeps_set4 k hA _ _ _ _⟩
set_option maxRecDepth 100000 in
set_option maxHeartbeats 3200000 in
/-- The document's example. -/
theorem anchor6 (w : World) : Calls Tryz.prog 6 #[] w (Yes w) := by
  have N1 := new7 4 4 w
  rw [show areaP 4 4 = true from by decide, if_pos rfl] at N1
  simp only [docV, Hd.nil] at N1
  have HN := Lib.hid N1
  clear N1
  go_enter Tryz.func6, Tryz.ntmps6
  go_upto_region 4 with ((with_reducible refine HN.out.mono ?_); rintro en w1 ⟨rfl, hk⟩; have K1 := Lib.hid hk; clear hk)
  have ka := (Keeps.refl none' w1).alloc (.cells #[.int .i64 4, .int .i64 4, .int .i64 1, .slice none 0 0] 26)
  have A2 := Lib.hid (Dc.new w1 4 4 1 Hd.nil)
  have K2 := Lib.hid (K1.out.next ka)
  have AW := Lib.hid K1.out.size
  unfold Hd.nil at A2
  obtain ⟨A, hA⟩ : ∃ A, A = w1.heap.size := ⟨_, rfl⟩
  rw [← hA] at A2 AW
  rw [← hA]
  clear hA ka HN
  generalize w1.alloc (.cells #[.int .i64 4, .int .i64 4, .int .i64 1, .slice none 0 0] 26) = w2 at *
  have c0 := A2.out.c0
  have c1 := A2.out.c1
  have c2 := A2.out.c2
  have c3 := A2.out.c3
  have d1 := add_ok (x := 4) (y := 4) 0 (-1) 0 4 4 w2 (doc_nil w2) (by rw [er]; exact gx0) (by omega) (by rw [er]; exact ax1)
  simp only [docV, edV, edCells, ed, Hd.nil] at d1
  have D1 := Lib.hid d1
  clear d1
  have AB := Lib.hid A2.out.lt
  go_upto_region 5 with ((with_reducible refine D1.out.mono ?_); rintro en w3 ⟨h1, l1, rfl, e1, n1, hk⟩; have K3 := Lib.hid (K2.out.next hk); have E1 := Lib.hid e1; have N1 := Lib.hid n1; have A3 := Lib.hid (A2.out.later hk); obtain ⟨⟨b0, b1, b2, b3⟩, bf⟩ := four_cells A3.out; have f0 := bf 0; have f1 := bf 1; have f2 := bf 2; have f3 := bf 3; clear hk e1 n1 bf)
  obtain ⟨q1, q2, q3⟩ := set_doc (x' := 4) (y' := 4) (z' := 2) A3.out N1.out AB.out K3.out AW.out
  have A4 := Lib.hid q1
  have N4 := Lib.hid q2
  have K4 := Lib.hid q3
  clear q1 q2 q3 c0 c1 c2 c3 b0 b1 b2 b3 f0 f1 f2 f3 A2 A3 N1 K1 K2 K3 D1
  generalize (((w3.setCell ⟨A, 0, none⟩ (.int .i64 4)).setCell ⟨A, 1, none⟩ (.int .i64 4)).setCell ⟨A, 2, none⟩ (.int .i64 2)).setCell ⟨A, 3, none⟩ (.slice h1.a h1.n h1.c) = w4 at *
  have c0 := A4.out.c0
  have c1 := A4.out.c1
  have c2 := A4.out.c2
  have c3 := A4.out.c3
  have d1 := add_ok (x := 4) (y := 4) 0 0 1 0 0 w4 N4.out.docV (by rw [E1.out]; exact gx1) (by omega) (by rw [E1.out]; exact ax2)
  simp only [docV, edV, edCells, ed, Hd.nil] at d1
  have D1 := Lib.hid d1
  have AB4 := Lib.hid A4.out.lt
  clear d1
  go_upto_region 6 with ((with_reducible refine D1.out.mono ?_); rintro en w5 ⟨h2, l2, rfl, e1, n1, hk⟩; have K5 := Lib.hid (K4.out.next hk); have E2 := Lib.hid e1; have N2 := Lib.hid n1; have A5 := Lib.hid (A4.out.later hk); obtain ⟨⟨b0, b1, b2, b3⟩, bf⟩ := four_cells A5.out; have f0 := bf 0; have f1 := bf 1; have f2 := bf 2; have f3 := bf 3; clear hk e1 n1 bf)
  obtain ⟨q1, q2, q3⟩ := set_doc (x' := 4) (y' := 4) (z' := 3) A5.out N2.out AB4.out K5.out AW.out
  have A6 := Lib.hid q1
  have N6 := Lib.hid q2
  have K6 := Lib.hid q3
  clear q1 q2 q3 c0 c1 c2 c3 b0 b1 b2 b3 f0 f1 f2 f3 A4 A5 N2 N4 K4 K5 D1 E1
  generalize (((w5.setCell ⟨A, 0, none⟩ (.int .i64 4)).setCell ⟨A, 1, none⟩ (.int .i64 4)).setCell ⟨A, 2, none⟩ (.int .i64 3)).setCell ⟨A, 3, none⟩ (.slice h2.a h2.n h2.c) = w6 at *
  have c0 := A6.out.c0
  have c1 := A6.out.c1
  have c2 := A6.out.c2
  have c3 := A6.out.c3
  have d1 := move_ok (x := 4) (y := 4) 1 2 (-1) w6 N6.out.docV (by rw [E2.out]; exact gx2) (by rw [E2.out]; exact ax3)
  simp only [docV, edV, edCells, ed, Hd.nil] at d1
  have D1 := Lib.hid d1
  clear d1
  go_upto_region 7 with ((with_reducible refine D1.out.mono ?_); rintro en w7 ⟨h3, l3, rfl, e1, n1, hk⟩; have K7 := Lib.hid (K6.out.next hk); have E3 := Lib.hid e1; have N3 := Lib.hid n1; have A7 := Lib.hid (A6.out.later hk); have N67 := Lib.hid (N6.out.later hk); clear hk e1 n1)
  have ka := (Keeps.refl none' w7).alloc (.cells #[.int .i64 4, .int .i64 4, .int .i64 3, .slice h3.a h3.n h3.c] 26)
  have B8 := Lib.hid (Dc.new w7 4 4 3 h3)
  have A8 := Lib.hid (A7.out.later ka)
  have N8 := Lib.hid (N3.out.later ka)
  have M8 := Lib.hid (N67.out.later ka)
  have K8 := Lib.hid (K7.out.next ka)
  obtain ⟨B, hB⟩ : ∃ B, B = w7.heap.size := ⟨_, rfl⟩
  rw [← hB] at B8
  rw [← hB]
  clear hB ka c0 c1 c2 c3 A6 A7 N3 N6 N67 K6 K7 D1
  generalize w7.alloc (.cells #[.int .i64 4, .int .i64 4, .int .i64 3, .slice h3.a h3.n h3.c] 26) = w8 at *
  have c0 := B8.out.c0
  have c1 := B8.out.c1
  have c2 := B8.out.c2
  have c3 := B8.out.c3
  have d1 := move_bad (x := 4) (y := 4) 2 2 0 w8 N8.out.docV (by rw [E3.out]; exact gx3) (by rw [E3.out]; exact ax4)
  simp only [docV, edV, edCells, ed, Hd.nil] at d1
  have D1 := Lib.hid d1
  clear d1
  go_upto_region 8 with ((with_reducible refine D1.out.mono ?_); rintro en w9 ⟨rfl, hk⟩; have H9 := Lib.hid hk; clear hk)
  have k9 := H9.out.next ((Keeps.refl none' w9).alloc (.cells #[.int .i64 0, .int .i64 0, .int .i64 0, .slice none 0 0] 26))
  have B10 := Lib.hid (B8.out.later k9)
  have A10 := Lib.hid (A8.out.later k9)
  have N10 := Lib.hid (N8.out.later k9)
  have M10 := Lib.hid (M8.out.later k9)
  have K10 := Lib.hid (K8.out.next k9)
  clear k9 c0 c1 c2 c3 H9 A8 B8 N8 M8 K8 D1
  generalize w9.alloc (.cells #[.int .i64 0, .int .i64 0, .int .i64 0, .slice none 0 0] 26) = w10 at *
  have c0 := B10.out.c0
  have c1 := B10.out.c1
  have c2 := B10.out.c2
  have c3 := B10.out.c3
  have d1 := parent_any 4 4 3 h3 l3 1 w10 N10.out.docV (by rw [E3.out, nx3]; omega)
  rw [E3.out, parx3] at d1
  simp only [docV] at d1
  have D1 := Lib.hid d1
  have d2 := fun w' (k : Keeps none' w10 w') => count_doc 4 4 3 h3 l3 w' (N10.out.later k).docV (by rw [E3.out, nx3]; omega)
  simp only [E3.out, nx3, docV] at d2
  have D2 := Lib.hid d2
  have d3 := fun w' (k : Keeps none' w10 w') => depth_doc 4 4 3 h3 l3 w' (N10.out.later k).docV (by rw [E3.out, nx3]; omega)
  simp only [E3.out, dx3, docV] at d3
  have D3 := Lib.hid d3
  have d4 := fun w' (k : Keeps none' w10 w') => depth_doc 4 4 3 h2 l2 w' (M10.out.later k).docV (by rw [E2.out]; exact gx2.cnt)
  simp only [E2.out, dx2, docV] at d4
  have D4 := Lib.hid d4
  clear d1 d2 d3 d4
  go_wp2_with (first
    | ((with_reducible refine D1.out.mono ?_); rintro en w11 ⟨rfl, hk⟩; have H11 := Lib.hid hk; have b0 := hk.cell c0; have b1 := hk.cell c1; have b2 := hk.cell c2; have b3 := hk.cell c3; clear hk)
    | ((with_reducible refine (D2.out w11 H11.out).mono ?_); rintro en w12 ⟨rfl, hk⟩; have H12 := Lib.hid (H11.out.next hk); have x0 := hk.cell b0; have x1 := hk.cell b1; have x2 := hk.cell b2; have x3 := hk.cell b3; clear hk)
    | ((with_reducible refine (D3.out w12 H12.out).mono ?_); rintro en w13 ⟨rfl, hk⟩; have H13 := Lib.hid (H12.out.next hk); have a13 := Lib.hid (A10.out.later (H12.out.next hk)); have y0 := a13.out.c0; have y1 := a13.out.c1; have y2 := a13.out.c2; have y3 := a13.out.c3; clear hk)
    | ((with_reducible refine (D4.out w13 H13.out).mono ?_); rintro en w14 ⟨rfl, hk⟩; have H14 := Lib.hid (H13.out.next hk); clear hk))
  go_ret
  exact ⟨rfl, K10.out.next H14.out⟩
end Go.Proofs.YtfcpbpfemmdklaaGreat.Tr

/- Hidden and shown, masked and unmasked: plain; edits' errors; a play's document. -/
namespace Go.Proofs.YtfcpbpfemmdklaaGreat.Tr
open Go.RowKit Go.Lib
set_option linter.unusedSimpArgs false
set_option linter.unusedVariables false

theorem turn_fnd {R : Dat → Prop} {z : Int} {id : Int} {ls : List Lay} {r : At'} {d' : Dat} (I : Inv R z ls) (h : fnd id ls = some r) (hid : d'.id = r.d.id) (hk : d'.kind = r.d.kind) (hR : R r.d → R d') :
    fnd id (plugP r.C (r.pre ++ .mk d' r.kids :: r.post)) = some ⟨r.C, r.pre, d', r.kids, r.post⟩ := by
  have N := (turnInv I h hid hk hR).good.nodup
  rw [← (fnd_plug h).2, ← hid]
  exact fnd_here N
/-- The layers with one hidden. -/
def hidden (r : At') : List Lay := plugP r.C (r.pre ++ .mk (setHid r.d true) r.kids :: r.post)
theorem hide_on {ls : List Lay} {id : Int} {r : At'} (h : fnd id ls = some r) : hideP ls id 1 = .ok (hidden r) := by
  unfold hideP
  rw [h]
  rfl
theorem hide_off {R : Dat → Prop} {z : Int} {ls : List Lay} {id : Int} {r : At'} (I : Inv R z ls) (h : fnd id ls = some r) (hR : R r.d → R (setHid r.d true)) (hh : r.d.hid = false) : hideP (hidden r) id 0 = .ok ls := by
  unfold hideP hidden
  rw [turn_fnd I h (d' := setHid r.d true) rfl rfl hR]
  have e : setHid (setHid r.d true) (decide ((0 : Int) = 1)) = r.d := by
    obtain ⟨C, pre, d, ks, post⟩ := r
    cases d
    simp only at hh
    subst hh
    rfl
  simp only
  rw [if_neg (by decide), e, (fnd_plug h).1]
theorem hidden_ne {R : Dat → Prop} {z : Int} {ls : List Lay} {id : Int} {r : At'} (I : Inv R z ls) (h : fnd id ls = some r) (hR : R r.d → R (setHid r.d true)) (hh : r.d.hid = false) : sameP (hidden r) ls = false := by
  cases hq : sameP (hidden r) ls with
  | false => rfl
  | true =>
    have e := sameP_true.1 hq
    have h2 := turn_fnd I h (d' := setHid r.d true) rfl rfl hR
    have e' : plugP r.C (r.pre ++ .mk (setHid r.d true) r.kids :: r.post) = ls := e
    rw [e', h] at h2
    have h3 : r.d.hid = (setHid r.d true).hid := congrArg (fun q : At' => q.d.hid) (Option.some.inj h2)
    rw [hh] at h3
    cases h3
theorem mask_off {R : Dat → Prop} {z x y : Int} {ls ls' : List Lay} {e : PEd} {r : At'} (I : Inv R z ls) (h : fnd e.id ls = some r) (hn : e.n = 0) (hR : ∀ l, R r.d → R (setMask r.d l)) (hm : r.d.mask = []) (ok : maskP ls x y e = .ok ls') (e2 : PEd) (h2 : e2.id = e.id) (hn2 : e2.n = 2) : maskP ls' x y e2 = .ok ls := by
  unfold maskP at ok
  rw [h] at ok
  simp only at ok
  rw [if_neg (by rw [hn]; decide), if_neg (by rw [hn]; decide)] at ok
  split at ok
  · cases ok
  cases ok
  unfold maskP
  rw [h2, turn_fnd I h (d' := setMask r.d (maskL (e.shape.map ptOf) x.toNat y.toNat (decide (e.n = 1)))) rfl rfl (hR _)]
  simp only
  rw [if_neg (by rw [hn2]; decide), if_pos hn2]
  have e3 : ∀ l, setMask (setMask r.d l) [] = r.d := by
    intro l
    obtain ⟨C, pre, d, ks, post⟩ := r
    cases d
    simp only at hm
    subst hm
    rfl
  rw [e3, (fnd_plug h).1]
theorem doP_err {x y z : Int} {ls : List Lay} {e : PEd} {f : Int} (h : doP x y z ls e = .error f) : f ≠ 0 := by
  unfold doP at h
  split at h
  · exact addP_err h
  split at h
  · exact removeP_err h
  split at h
  · exact moveP_err h
  split at h
  · exact paintE_err h
  split at h
  · exact lookP_err h
  split at h
  · exact hideP_err h
  split at h
  · exact maskP_err h
  split at h
  · exact placeP_err h
  split at h
  · exact adjustP_err h
  · cases h; decide
/-- A play's document under way, in a variable. -/
structure PlayD (w : World) (A : Nat) (x y z : Int) (w' : World) (h : Hd) (l : List Loc) (B : Nat) : Prop where
  doc : Dc w' A x y z h
  low : A < B
  new : NewD B w' h l
  inv : Inv RW z (er l)
  keeps : Keeps none' w w'
  old : w.heap.size ≤ A
theorem PlayD.later {w : World} {A : Nat} {x y z : Int} {w' w'' : World} {h : Hd} {l : List Loc} {B : Nat} (r : PlayD w A x y z w' h l B) (k : Keeps none' w' w'') : PlayD w A x y z w'' h l B :=
  ⟨r.doc.later k, r.low, r.new.later k, r.inv, r.keeps.next k, r.old⟩
theorem PlayD.next {w : World} {A : Nat} {x y z z' : Int} {w0 w3 : World} {h h' : Hd} {l l' : List Loc} {B : Nat} (r : PlayD w A x y z w0 h l B) (k : Keeps none' w0 w3) (n : NewD w0.heap.size w3 h' l') (I : Inv RW z' (er l')) :
    PlayD w A x y z' ((((w3.setCell ⟨A, 0, none⟩ (.int .i64 x)).setCell ⟨A, 1, none⟩ (.int .i64 y)).setCell ⟨A, 2, none⟩ (.int .i64 z')).setCell ⟨A, 3, none⟩ (.slice h'.a h'.n h'.c)) h' l' w0.heap.size := by
  obtain ⟨a, b, c⟩ := set_doc (x' := x) (y' := y) (z' := z') (r.doc.later k) n r.doc.lt (r.keeps.next k) r.old
  exact ⟨a, r.doc.lt, b, I, c, r.old⟩
theorem PlayD.start {w w3 : World} {A : Nat} {x y : Int} (d : Dc w3 A x y 1 Hd.nil) (k : Keeps none' w w3) (hA : w.heap.size ≤ A) : PlayD w A x y 1 w3 Hd.nil [] (A + 1) := by
  refine ⟨d, Nat.lt_succ_self _, ⟨⟨⟨by rw [flat]; rfl, .inl ⟨rfl, rfl⟩⟩, fun u hu => (by rw [flat] at hu; cases hu), by show 0 ≤ _; omega⟩, by unfold Own; rw [All]; trivial, by simp [Hd.blk, Hd.nil, blks, hds]⟩, ?_, k, hA⟩
  rw [er]
  exact inv0 RW
end Go.Proofs.YtfcpbpfemmdklaaGreat.Tr

/- TreeMade's walk (5). -/
namespace Go.Proofs.YtfcpbpfemmdklaaGreat.Tr
open Go.RowKit Go.Lib
set_option linter.unusedSimpArgs false
set_option linter.unusedVariables false

theorem mi_le30 {i n : Nat} {z : Int} (h : z ≤ (i : Int) + 1) (hi : i ≤ n) (hn : n ≤ 30) : z ≤ 4611686018427387904 := by omega
theorem next_le {i : Nat} {z : Int} (h : z ≤ (i : Int) + 1) (e : PEd) : nextZ z e ≤ ((i + 1 : Nat) : Int) + 1 := by
  unfold nextZ
  split <;> omega
theorem measB {i n : Nat} (h : i < n) : n - (i + 1) < n - i := by omega
/-- Do with an edit that came in, which is taken. -/
theorem play_okR {w : World} {A : Nat} {x y z : Int} {w' : World} {h : Hd} {l : List Loc} {B : Nat} {ls' : List Lay} (u : EdH) (R : PlayD w A x y z w' h l B) (I : Inv (Rt x y) z (er l)) (hx : 0 ≤ x) (hy : 0 ≤ y) (hz : z ≤ 4611686018427387904) (O : EdOk w' u.e u.p u.s u.q) (d : doP x y z (er l) u.e = .ok ls') :
    Calls Tryz.prog 9 #[.agg #[.int .i64 x, .int .i64 y, .int .i64 z, .slice h.a h.n h.c], .agg u.cells.toArray] w' fun en w3 => ∃ h' lsL, en = .returned (.tuple #[.agg #[.int .i64 x, .int .i64 y, .int .i64 (nextZ z u.e), .slice h'.a h'.n h'.c], .int .i64 0]) ∧ (Inv RW (nextZ z u.e) (er lsL) ∧ Inv (Rt x y) (nextZ z u.e) (er lsL)) ∧ NewD w'.heap.size w3 h' lsL ∧ Keeps none' w' w3 := by
  refine (do_any x y z h l u.e u.p u.s u.q w' R.new.docV R.inv.good hz R.inv.wok O).mono ?_
  intro en w3 D
  rw [d] at D
  obtain ⟨h', lsL, e1, e2, e3, e4⟩ := D
  exact ⟨h', lsL, e1, by rw [e2]; exact ⟨doP_inv (closed_rw x y) R.inv d, doP_inv (closed_rt hx hy) I d⟩, e3, e4⟩
/-- Do with an edit that came in, which is refused. -/
theorem play_badR {w : World} {A : Nat} {x y z : Int} {w' : World} {h : Hd} {l : List Loc} {B : Nat} {f : Int} (u : EdH) (R : PlayD w A x y z w' h l B) (hz : z ≤ 4611686018427387904) (O : EdOk w' u.e u.p u.s u.q) (d : doP x y z (er l) u.e = .error f) :
    Calls Tryz.prog 9 #[.agg #[.int .i64 x, .int .i64 y, .int .i64 z, .slice h.a h.n h.c], .agg u.cells.toArray] w' fun en w3 => en = .returned (.tuple #[.agg #[.int .i64 0, .int .i64 0, .int .i64 0, .slice none 0 0], .int .i64 f]) ∧ Keeps none' w' w3 := by
  refine (do_any x y z h l u.e u.p u.s u.q w' R.new.docV R.inv.good hz R.inv.wok O).mono ?_
  intro en w3 D
  rw [d] at D
  exact D
/-- The document of a play is right. -/
theorem play_right {w : World} {A : Nat} {x y z : Int} {w' : World} {h : Hd} {l : List Loc} {B : Nat} (R : PlayD w A x y z w' h l B) (I : Inv (Rt x y) z (er l)) (hxy : areaP x y = true) :
    Calls Tryz.prog 21 #[.agg #[.int .i64 x, .int .i64 y, .int .i64 z, .slice h.a h.n h.c]] w' fun en w'' => en = .returned (.bool true) ∧ Keeps none' w' w'' := right_any x y z h l w' R.new.docV hxy I
set_option maxRecDepth 100000 in
set_option maxHeartbeats 6400000 in
theorem made_out (x y : Int) (a : Option Addr) (n c : Nat) (w : World) (ho : ¬ ((1 ≤ x ∧ x ≤ 24) ∧ (1 ≤ y ∧ y ≤ 24))) : Calls Tryz.prog 5 #[.int .i64 x, .int .i64 y, .slice a n c] w (Yes w) := by
  have AN := Lib.hid (anchor6 w)
  have B9 := fun w' => begun_out x y w' ho
  simp only [docV, docR, Hd.nil] at B9
  have BN := Lib.hid B9
  clear B9 ho
  go_enter Tryz.func5, Tryz.ntmps5
  go_upto_region 3 with ((with_reducible refine AN.out.mono ?_); rintro en w1 ⟨rfl, hk⟩; have K1 := Lib.hid hk; clear hk)
  go_wp2_with ((with_reducible refine (BN.out w1).mono ?_); rintro en w2 ⟨p, q, r, p', q', r', rfl, hk⟩; have K2 := Lib.hid (K1.out.next hk); clear hk)
  go_ret
  exact ⟨rfl, (K2.out.alloc _).alloc _⟩
set_option maxRecDepth 100000 in
set_option maxHeartbeats 6400000 in
theorem made_walk (x y : Int) (a : Option Addr) (n c : Nat) (xs : List EdH) (w : World) (hx : 1 ≤ x ∧ x ≤ 24) (hy : 1 ≤ y ∧ y ≤ 24) (E : Eds w a n xs) : Calls Tryz.prog 5 #[.int .i64 x, .int .i64 y, .slice a n c] w (Yes w) := by
  have AN := Lib.hid (anchor6 w)
  have B9 := fun w' => begun9 x y w' hx hy
  simp only [docV, docR, Hd.nil] at B9
  have BN := Lib.hid B9
  have HE := Lib.hid E
  have XY := Lib.hid (And.intro (area_small x y hx hy) (And.intro (show 0 ≤ x from by omega) (show 0 ≤ y from by omega)))
  clear B9 E hx hy
  go_enter Tryz.func5, Tryz.ntmps5
  go_upto_region 3 with ((with_reducible refine AN.out.mono ?_); rintro en w1 ⟨rfl, hk⟩; have K1 := Lib.hid hk; clear hk)
  go_upto_region 4 with ((with_reducible refine (BN.out w1).mono ?_); rintro en w2 ⟨rfl, hk⟩; have K2 := Lib.hid (K1.out.next hk); clear hk)
  have k3 := ((Keeps.refl none' (w2.alloc (.cells #[.int .i64 x, .int .i64 y, .int .i64 1, .slice none 0 0] 26))).alloc (.cells #[.int .i64 x, .int .i64 y, .int .i64 1, .slice none 0 0] 29))
  have A3 := Lib.hid ((Dc.new w2 x y 1 Hd.nil).later k3)
  have K3 := Lib.hid ((K2.out.alloc (.cells #[.int .i64 x, .int .i64 y, .int .i64 1, .slice none 0 0] 26)).next k3)
  obtain ⟨A, hA⟩ : ∃ A, A = w2.heap.size := ⟨_, rfl⟩
  have AW := Lib.hid (show w.heap.size ≤ A from by rw [hA]; exact K2.out.size)
  rw [← hA] at A3
  rw [← hA]
  clear hA k3 K1 K2 AN BN
  generalize (w2.alloc (.cells #[.int .i64 x, .int .i64 y, .int .i64 1, .slice none 0 0] 26)).alloc (.cells #[.int .i64 x, .int .i64 y, .int .i64 1, .slice none 0 0] 29) = w3 at *
  have P3 := Lib.hid (PlayD.start A3.out K3.out AW.out)
  clear A3 AW
  have SM : Calls Tryz.prog 8 #[.slice a n c, .int .i64 30] w3 (SmallSays n 30 xs w3) := small_any a n c 30 xs w3 (by omega) ⟨HE.out.1, fun i u hu => (by
    obtain ⟨b, off, e1, e2, e3⟩ := HE.out.2 i u hu
    exact ⟨b, off, e1, fun j v hj => K3.out.cell (e2 j v hj), e3.later K3.out⟩)⟩
  unfold SmallSays at SM
  have SN := Lib.hid SM
  clear SM
  go_wp2_with ((with_reducible refine SN.out.mono ?_); rintro en w4 ⟨b, rfl, hb, hk⟩; have J := Lib.hid hk; have HB := Lib.hid hb; clear hb hk; cases b)
  · go_ret
    exact ⟨rfl, K3.out.next J.out⟩
  have HS := Lib.hid (show n ≤ 30 ∧ (∀ u ∈ xs, SmallE u.p u.s u.q) from HB.out (by first | trivial | rfl))
  have P4 := Lib.hid (P3.out.later J.out)
  clear HB J P3 K3 SN
  go_loopw [32] (fun s32 wr => ∃ (i : Nat) (z : Int) (h : Hd) (l : List Loc) (B : Nat), i ≤ n ∧ s32 = .int .i64 i ∧ z ≤ (i : Int) + 1 ∧ PlayD w A x y z wr h l B ∧ Inv (Rt x y) z (er l)) (fun s32 _ => n - (intOf s32).toNat)
  case atStart => exact ⟨0, 1, Hd.nil, [], A + 1, Nat.zero_le _, rfl, by omega, P4.out, by rw [er]; exact inv0 _⟩
  case round =>
    clear P4
    obtain ⟨i, z, h, l, B, hin, rfl, hz, rr, rt⟩ := hrel
    have RR := Lib.hid rr
    have RTT := Lib.hid rt
    have HZ := Lib.hid hz
    clear rr hz rt
    by_cases hlt : i < n
    · have tk : decide ((i : Int) < (n : Int)) = true := by simp; omega
      have tk2 : decide (i < n) = true := by simp; omega
      obtain ⟨u, hu⟩ : ∃ u, xs[i]? = some u := ⟨_, List.getElem?_eq_getElem (by have := HE.out.1; omega)⟩
      have hsm := HS.out.2 u (List.mem_of_getElem? hu)
      obtain ⟨b, off, e0, hr, he⟩ := HE.out.2 i u hu
      have hn30 := HS.out.1
      have iw : wrap64 ((i : Int) + 1) = (i : Int) + 1 := wrap64_id _ (by omega) (by omega)
      subst e0
      have RG := Lib.hid (show wr.rangeAt b (off + i * 19) u.cells from fun j v hj => RR.out.keeps.cell (hr j v hj))
      have LF := Lib.hid (ed_row35 u)
      have OK := Lib.hid ((he.later RR.out.keeps).ok hsm)
      have ZL := Lib.hid (mi_le30 HZ.out hin hn30)
      have HI := Lib.hid (And.intro hlt hin)
      have hii : (i : Int) < n := by omega
      clear hu hr he hsm hn30
      go_upto_region 9 with (first
        | (refine wpList_load_mid rfl 38 _ rfl b (off + i * 19) rfl u.cells _ RG.out Tryz.underlying38 rfl LF.out.1 ?_)
        | (refine wpList_store_row rfl 38 _ _ rfl wr.heap.size u.cells.toArray rfl rfl 38 _ (heap_alloc_new _ _) LF.out.2.1 (by exact LF.out.2.2.1) LF.out.2.2.2 ?_))
      have EB := Lib.hid (show ((wr.alloc (.cells #[.int .i64 0, .int .i64 0, .int .i64 0, .int .i64 0, .int .i64 0, .int .i64 0, .int .i64 0, .int .i64 0, .int .i64 0, .int .i64 0, .slice none 0 0, .slice none 0 0, .int .i64 0, .int .i64 0, .int .i64 0, .int .i64 0, .int .i64 0, .int .i64 0, .slice none 0 0] 38)).setRow wr.heap.size u.cells.toArray).heap[wr.heap.size]? = some (.cells u.cells.toArray 38 (0, 0)) from setRow_heap _ _ _ _ _ _ (heap_alloc_new _ _))
      have k2 := ((Keeps.refl none' wr).alloc (.cells #[.int .i64 0, .int .i64 0, .int .i64 0, .int .i64 0, .int .i64 0, .int .i64 0, .int .i64 0, .int .i64 0, .int .i64 0, .int .i64 0, .slice none 0 0, .slice none 0 0, .int .i64 0, .int .i64 0, .int .i64 0, .int .i64 0, .int .i64 0, .int .i64 0, .slice none 0 0] 38)).setRow (R := wr.heap.size) (Nat.le_refl _) u.cells.toArray
      have R2 := Lib.hid (RR.out.later k2)
      have O2 := Lib.hid (OK.out.later k2)
      generalize (wr.alloc (.cells #[.int .i64 0, .int .i64 0, .int .i64 0, .int .i64 0, .int .i64 0, .int .i64 0, .int .i64 0, .int .i64 0, .int .i64 0, .int .i64 0, .slice none 0 0, .slice none 0 0, .int .i64 0, .int .i64 0, .int .i64 0, .int .i64 0, .int .i64 0, .int .i64 0, .slice none 0 0] 38)).setRow wr.heap.size u.cells.toArray = w5 at *
      obtain ⟨L, hL⟩ : ∃ L, L = wr.heap.size := ⟨_, rfl⟩
      rw [← hL] at EB
      rw [← hL]
      clear hL RG RR OK k2
      have c0 := R2.out.doc.c0
      have c1 := R2.out.doc.c1
      have c2 := R2.out.doc.c2
      have c3 := R2.out.doc.c3
      cases hd : doP x y z (er l) u.e with
      | error f =>
        have C1 := Lib.hid (play_badR u R2.out ZL.out O2.out hd)
        have hf := doP_err hd
        have t1 : (f == 0) = false := by simpa using hf
        have t2 : decide (f = 0) = false := by simpa using hf
        clear hd hf
        go_upto_region 10 with (first
          | (refine wpList_load_row rfl 38 _ rfl L rfl 38 u.cells.toArray (0, 0) _ EB.out Tryz.underlying38 rfl LF.out.2.1 ?_)
          | ((with_reducible refine C1.out.mono ?_); rintro en w6 ⟨rfl, hk⟩; have K6 := Lib.hid hk; clear hk))
        have R3 := Lib.hid (R2.out.later (K6.out.alloc (.cells #[.int .i64 0, .int .i64 0, .int .i64 0, .slice none 0 0] 26)))
        clear K6 C1 c0 c1 c2 c3 R2 O2 LF EB
        generalize w6.alloc (.cells #[.int .i64 0, .int .i64 0, .int .i64 0, .slice none 0 0] 26) = w7 at *
        have c0 := R3.out.doc.c0
        have c1 := R3.out.doc.c1
        have c2 := R3.out.doc.c2
        have c3 := R3.out.doc.c3
        have RI := Lib.hid (play_right R3.out RTT.out XY.out.1)
        go_wp2_with ((with_reducible refine RI.out.mono ?_); rintro en w8 ⟨rfl, hk⟩; have R4 := Lib.hid (R3.out.later hk); clear hk)
        go_roundw
        case rel => exact ⟨i + 1, z, h, l, B, HI.out.1, by go_num, by have := HZ.out; omega, R4.out, RTT.out⟩
        case measure => exact meas_lt HI.out.1 iw
      | ok ls' =>
        have C1 := Lib.hid (play_okR u R2.out RTT.out XY.out.2.1 XY.out.2.2 ZL.out O2.out hd)
        clear hd
        go_upto_region 10 with (first
          | (refine wpList_load_row rfl 38 _ rfl L rfl 38 u.cells.toArray (0, 0) _ EB.out Tryz.underlying38 rfl LF.out.2.1 ?_)
          | ((with_reducible refine C1.out.mono ?_); rintro en w6 ⟨h', l', rfl, e1, n1, hk⟩; have K6 := Lib.hid hk; have E1 := Lib.hid e1; have N1 := Lib.hid n1; clear hk e1 n1))
        obtain ⟨zz, hzz⟩ : ∃ zz, zz = nextZ z u.e := ⟨_, rfl⟩
        have HZ2 := Lib.hid (show zz ≤ ((i + 1 : Nat) : Int) + 1 from by rw [hzz]; exact next_le HZ.out u.e)
        rw [← hzz] at E1
        rw [← hzz]
        clear hzz
        have ka := (Keeps.refl none' w6).alloc (.cells #[.int .i64 x, .int .i64 y, .int .i64 zz, .slice h'.a h'.n h'.c] 26)
        have B6 := Lib.hid (Dc.new w6 x y zz h')
        have H6 := Lib.hid (K6.out.next ka)
        have N6 := Lib.hid (N1.out.later ka)
        have A6 := Lib.hid (R2.out.doc.later H6.out)
        obtain ⟨Gb, hGb⟩ : ∃ Gb, Gb = w6.heap.size := ⟨_, rfl⟩
        rw [← hGb] at B6
        rw [← hGb]
        clear hGb ka c0 c1 c2 c3 K6 N1 C1 LF EB
        generalize w6.alloc (.cells #[.int .i64 x, .int .i64 y, .int .i64 zz, .slice h'.a h'.n h'.c] 26) = w7 at *
        have c0 := B6.out.c0
        have c1 := B6.out.c1
        have c2 := B6.out.c2
        have c3 := B6.out.c3
        obtain ⟨⟨b0, b1, b2, b3⟩, bf⟩ := four_cells A6.out
        have f0 := bf 0
        have f1 := bf 1
        have f2 := bf 2
        have f3 := bf 3
        clear bf
        have NX := Lib.hid (R2.out.next H6.out N6.out E1.out.1)
        have RT2 := Lib.hid E1.out.2
        clear R2 O2 A6 B6 H6 N6 E1 RTT
        go_upto_region 12 with (fail)
        have RI := Lib.hid (play_right NX.out RT2.out XY.out.1)
        clear b0 b1 b2 b3 f0 f1 f2 f3 c0 c1 c2 c3
        generalize (((w7.setCell ⟨A, 0, none⟩ (.int .i64 x)).setCell ⟨A, 1, none⟩ (.int .i64 y)).setCell ⟨A, 2, none⟩ (.int .i64 zz)).setCell ⟨A, 3, none⟩ (.slice h'.a h'.n h'.c) = w9 at *
        have c0 := NX.out.doc.c0
        have c1 := NX.out.doc.c1
        have c2 := NX.out.doc.c2
        have c3 := NX.out.doc.c3
        go_wp2_with ((with_reducible refine RI.out.mono ?_); rintro en w8 ⟨rfl, hk⟩; have R4 := Lib.hid (NX.out.later hk); clear hk)
        go_roundw
        case rel => exact ⟨i + 1, zz, h', l', _, HI.out.1, by go_num, HZ2.out, R4.out, RT2.out⟩
        case measure => exact meas_lt HI.out.1 iw
    · obtain rfl : i = n := by omega
      have tk : decide ((i : Int) < (i : Int)) = false := by simp
      go_wp2_with fail
      go_ret
      exact ⟨rfl, RR.out.keeps⟩
theorem made_law (x y : Int) (a : Option Addr) (n c : Nat) (xs : List EdH) (w : World) (E : Eds w a n xs) : Calls Tryz.prog 5 #[.int .i64 x, .int .i64 y, .slice a n c] w (Yes w) := by
  by_cases h : (1 ≤ x ∧ x ≤ 24) ∧ (1 ≤ y ∧ y ≤ 24)
  · exact made_walk x y a n c xs w h.1 h.2 E
  · exact made_out x y a n c w h
end Go.Proofs.YtfcpbpfemmdklaaGreat.Tr
