/- A layer found by its number (22). (printed by genTH.py) -/
import Derived.Test.YtfcpbpfemmdklaaG
namespace Go.Proofs.Ytfcpbpfemmdklaa
open Go.RowKit Go.Shelf
attribute [local go_sem] Oper.semAt_some
set_option linter.unusedSimpArgs false
set_option linter.unusedVariables false

theorem mem_sps {hid : Int} {kb ko dep b o : Nat} {X : Spt} : ∀ {ls : List Loc} {i : Nat}, X ∈ sps hid kb ko dep b o i ls → ∃ j l, ls[j]? = some l ∧ (X = ⟨hid, kb, ko, dep, i + j, l, b, o + (i + j) * 19⟩ ∨ X ∈ sps l.dat.id b (o + (i + j) * 19 + 18) (dep + 1) l.kh.b l.kh.o 0 l.kids)
  | [], i, h => by rw [sps] at h; cases h
  | .mk d p m q k kids :: ls, i, h => by
    rw [sps] at h
    rcases List.mem_cons.1 h with h | h
    · exact ⟨0, _, rfl, .inl h⟩
    · rcases List.mem_append.1 h with h | h
      · exact ⟨0, _, rfl, .inr h⟩
      · obtain ⟨j, l, h1, h2⟩ := mem_sps (ls := ls) h
        refine ⟨j + 1, l, h1, ?_⟩
        rw [show i + 1 + j = i + (j + 1) by omega] at h2
        exact h2
theorem sps_fuel {n₀ : Nat} {w : World} : ∀ (m : Nat) (ls : List Loc), SizeOf.sizeOf ls ≤ m → ∀ (hid : Int) (kb ko dep : Nat) (h : Hd), HomeN n₀ w kb ko h ls → dep + cnt ls ≤ 1099511627776 → ∀ X ∈ sps hid kb ko dep h.b h.o 0 ls, Vld n₀ w X
  | 0, ls, hs, _, _, _, _, _, _, _, _, _ => by cases ls <;> simp at hs
  | m + 1, ls, hs, hid, kb, ko, dep, h, H, hd, X, hX => by
    obtain ⟨j, l, hl, hx⟩ := mem_sps hX
    have hn : 0 < ls.length := by have := (List.getElem?_eq_some_iff.1 hl).1; omega
    obtain ⟨b, o, e, -⟩ := H.home.lies hn
    have eb : h.b = b := by unfold Hd.b; rw [e]
    have eo : h.o = o := by unfold Hd.o; rw [e]
    rw [eb, eo, Nat.zero_add] at hx
    rcases hx with rfl | hx
    · exact ⟨h, ls, o, H, hl, e, rfl, by show dep ≤ _; omega⟩
    · have hsz := List.sizeOf_lt_of_mem (List.mem_of_getElem? hl)
      cases l with
      | mk d p m' q k kids =>
        simp only [Loc.mk.sizeOf_spec] at hsz
        have hc := cnt_at hl
        simp only [Loc.kids] at hc
        exact sps_fuel m kids (by omega) _ _ _ _ _ (H.kids e hl) (by omega) X hx
/-- All spots are ones. -/
theorem sps_valid {n₀ : Nat} {w : World} {hid : Int} {kb ko dep : Nat} {h : Hd} {ls : List Loc} (H : HomeN n₀ w kb ko h ls) (hd : dep + cnt ls ≤ 1099511627776) : ∀ X ∈ sps hid kb ko dep h.b h.o 0 ls, Vld n₀ w X := sps_fuel _ ls (Nat.le_refl _) hid kb ko dep h H hd
theorem Vld.later {n₀ : Nat} {w w' : World} {X : Spt} (v : Vld n₀ w X) (k : Keeps none' w w') : Vld n₀ w' X := by
  obtain ⟨h, ls, off, H, h1, h2, h3⟩ := v
  exact ⟨h, ls, off, H.later k, h1, h2, h3⟩
theorem Vld.kp {n₀ n₁ : Nat} {w w' : World} {X : Spt} (v : Vld n₀ w X) (k : KpS n₀ n₁ w w') : Vld n₀ w' X := by
  obtain ⟨h, ls, off, H, h1, h2, h3⟩ := v
  exact ⟨h, ls, off, H.kp k, h1, h2, h3⟩
/-- The first layer of a number among spots. -/
def findP (id : Int) (xs : List Spt) : Option Spt := xs.find? (fun X => X.l.dat.id == id)
theorem findP_none {id : Int} {xs : List Spt} (h : ∀ x ∈ xs, x.l.dat.id ≠ id) : findP id xs = none := by
  unfold findP
  rw [List.find?_eq_none]
  intro x hx
  simpa using h x hx
theorem findP_some {id : Int} {q r : List Spt} {X : Spt} (h : ∀ x ∈ q, x.l.dat.id ≠ id) (hX : X.l.dat.id = id) : findP id (q ++ X :: r) = some X := by
  unfold findP
  rw [List.find?_append, List.find?_eq_none.2 (fun x hx => by simpa using h x hx)]
  simp [hX]
def Found (id : Int) (xs : List Spt) (e : Ending) : Prop := match findP id xs with
  | some X => e = .returned (.tuple #[.agg #[.int .i64 X.hid, .pointer (some ⟨X.kb, X.ko, none⟩), .int .i64 (X.dep : Int), .int .i64 (X.i : Int)], .bool true])
  | none => e = .returned (.tuple #[.agg #[.int .i64 0, .pointer none, .int .i64 0, .int .i64 0], .bool false])
/-- The call's own blocks while it looks. -/
structure Fnd (w : World) (n₁ : Nat) (id : Int) (c : Array Value) (b : Bool) (W : World) : Prop where
  num : Nb W (w.heap.size + 1) id
  res : W.heap[w.heap.size + 1 + 1]? = some (.cells c 67 (0, 0))
  ok : W.heap[w.heap.size + 1 + 1 + 1]? = some (.cells #[.bool b] 4 (0, 0))
  keeps : Keeps none' w W
  size : n₁ ≤ W.heap.size
theorem Fnd.own {w W W' : World} {n₁ : Nat} {id : Int} {c : Array Value} {b : Bool} {row : Option Nat} {B : Nat} (h : Fnd w n₁ id c b W) (hB : w.heap.size ≤ B) (hg : W.grownBy W' row) (hr : ∀ r, row = some r → B ≤ r ∧ ∃ o : Obj, W.heap[r]? = some o ∧ o.isCells = false) : Fnd w n₁ id c b W' :=
  ⟨block_own h.num hg hr, block_own h.res hg hr, block_own h.ok hg hr, keeps_own h.keeps hB hg hr, Nat.le_trans h.size hg.size⟩
theorem Fnd.later {w W W' : World} {n₁ : Nat} {id : Int} {c : Array Value} {b : Bool} (h : Fnd w n₁ id c b W) (k : Keeps none' W W') : Fnd w n₁ id c b W' :=
  ⟨h.num.later k, (k.later _ (lt_of_block h.res)).trans h.res, (k.later _ (lt_of_block h.ok)).trans h.ok, h.keeps.next k, Nat.le_trans h.size k.size⟩
theorem kpS_own {n₀ n₁ B : Nat} {w8 W W' : World} {row : Option Nat} (h : KpS n₀ n₁ w8 W) (hg : W.grownBy W' row) (hr : ∀ r, row = some r → B ≤ r ∧ ∃ o : Obj, W.heap[r]? = some o ∧ o.isCells = false) : KpS n₀ n₁ w8 W' :=
  ⟨hg.os.trans h.os, hg.tape.trans h.tape, hg.output.trans h.output, Nat.le_trans h.size hg.size, fun b c t f e hb => by
    have h1 := (h.block b c t f e hb).trans e
    rw [block_own h1 hg hr, e]⟩
theorem from_keeps {B : Nat} {W W' : World} (h : Keeps none' W W') : KeepsFrom B W W' := ⟨h.size, fun k o _ hk _ => (h.later k (Array.getElem?_eq_some_iff.1 hk).1).trans hk⟩
/-- What was found is written down. -/
theorem Fnd.hit {w W : World} {n₁ : Nat} {id : Int} {x y z v : Value} (h : Fnd w n₁ id #[x, y, z, v] false W) (x' y' z' v' : Value) (t : Bool) :
    Fnd w n₁ id #[x', y', z', v'] t (((((W.setCell ⟨w.heap.size + 1 + 1, 0, none⟩ x').setCell ⟨w.heap.size + 1 + 1, 1, none⟩ y').setCell ⟨w.heap.size + 1 + 1, 2, none⟩ z').setCell ⟨w.heap.size + 1 + 1, 3, none⟩ v').setCell ⟨w.heap.size + 1 + 1 + 1, 0, none⟩ (.bool t)) := by
  obtain ⟨n, r, o, k, s⟩ := h
  have oth : ∀ (w : World) (b c i : Nat) (u : Value), b ≠ c → (w.setCell ⟨c, i, none⟩ u).heap[b]? = w.heap[b]? := fun w b c i u hb => Below.heap_setCell _ _ _ _ hb
  refine ⟨?_, ?_, ?_, ((((k.setCell (fun e => ?_) _).setCell (fun e => ?_) _).setCell (fun e => ?_) _).setCell (fun e => ?_) _).setCell (fun e => ?_) _, by simpa [World.setCell] using s⟩
  · unfold Nb
    rw [oth _ _ _ _ _ (by omega), oth _ _ _ _ _ (by omega), oth _ _ _ _ _ (by omega), oth _ _ _ _ _ (by omega), oth _ _ _ _ _ (by omega)]
    exact n
  · rw [oth _ _ _ _ _ (by omega)]
    exact block_set (i := 3) (block_set (i := 2) (block_set (i := 1) (block_set (i := 0) r x') y') z') v'
  · have o4 : ((((W.setCell ⟨w.heap.size + 1 + 1, 0, none⟩ x').setCell ⟨w.heap.size + 1 + 1, 1, none⟩ y').setCell ⟨w.heap.size + 1 + 1, 2, none⟩ z').setCell ⟨w.heap.size + 1 + 1, 3, none⟩ v').heap[w.heap.size + 1 + 1 + 1]? = some (.cells #[.bool false] 4 (0, 0)) := by
      rw [oth _ _ _ _ _ (by omega), oth _ _ _ _ _ (by omega), oth _ _ _ _ _ (by omega), oth _ _ _ _ _ (by omega)]
      exact o
    exact block_set (i := 0) o4 (.bool t)
  · have e' : w.heap.size + 1 + 1 < w.heap.size := e; omega
  · have e' : w.heap.size + 1 + 1 < w.heap.size := e; omega
  · have e' : w.heap.size + 1 + 1 < w.heap.size := e; omega
  · have e' : w.heap.size + 1 + 1 < w.heap.size := e; omega
  · have e' : w.heap.size + 1 + 1 + 1 < w.heap.size := e; omega
theorem four_cells {W : World} {b : Nat} {x y z v : Value} {t : TypeId} (h : W.heap[b]? = some (.cells #[x, y, z, v] t (0, 0))) : (W.cell? ⟨b, 0, none⟩ = some x ∧ W.cell? ⟨b, 1, none⟩ = some y ∧ W.cell? ⟨b, 2, none⟩ = some z ∧ W.cell? ⟨b, 3, none⟩ = some v) ∧ ∀ i, W.frozen? ⟨b, i, none⟩ = false := by
  refine ⟨⟨?_, ?_, ?_, ?_⟩, fun i => ?_⟩ <;> simp [World.cell?, World.frozen?, h]
theorem one_cell {W : World} {b : Nat} {x : Value} {t : TypeId} (h : W.heap[b]? = some (.cells #[x] t (0, 0))) : W.cell? ⟨b, 0, none⟩ = some x ∧ W.frozen? ⟨b, 0, none⟩ = false := by
  constructor <;> simp [World.cell?, World.frozen?, h]
theorem results_two {P : Program} {fn : Func} {p u : Tmp} {ty ty2 : TypeId} (h : fn.results = #[.cell p ty, .cell u ty2]) (tmps : Array Value) (w : World) (g g2 : Nat) (t : TypeId) (cs : Array Value) (v : Value) (fr : Nat × Nat) (d : TypeDesc)
    (hp : tmps.getD p undef = .pointer (some ⟨g, 0, none⟩)) (hg : w.heap[g]? = some (.cells cs t fr)) (hu : P.underlying ty = some d) (hd : (match d with | .struct _ | .array _ _ => true | _ => false) = true) (hi : (P.info? ty).map (·.size) = some cs.size)
    (hp2 : tmps.getD u undef = .pointer (some ⟨g2, 0, none⟩)) (hl : (loadVar ty2 ⟨g2, 0, none⟩).run P w = .ok v w) :
    (results fn tmps).run P w = .ok (.tuple #[.agg cs, v]) w := by
  have hp' : tmps[p]?.getD undef = .pointer (some ⟨g, 0, none⟩) := by simpa using hp
  have hp2' : tmps[u]?.getD undef = .pointer (some ⟨g2, 0, none⟩) := by simpa using hp2
  simp [results, h, hp', hp2', asAddr, run_loadVar_row w g t ty cs fr d hg hu hd hi, hl]
theorem load_bool (w : World) (g : Nat) (b : Bool) (h : w.heap[g]? = some (.cells #[.bool b] 4 (0, 0))) : (loadVar 4 ⟨g, 0, none⟩).run Try.prog w = .ok (.bool b) w := by
  have hc : w.cell? ⟨g, 0, none⟩ = some (.bool b) := by simp [World.cell?, h]
  simp [go_sem, hc, Try.isAgg4, Try.underlying4]
theorem size67 : (Try.prog.info? 67).map (·.size) = some 4 := by kernel_rfl
set_option maxRecDepth 100000 in
set_option maxHeartbeats 3200000 in
theorem find_any (hid : Int) (kb ko dep : Nat) (h : Hd) (ls : List Loc) (id : Int) (w : World) (H : Home w kb ko h ls) (hd : dep + cnt ls ≤ 1099511627776) :
    Calls Try.prog 22 #[.agg #[.int .i64 hid, .pointer (some ⟨kb, ko, none⟩), .int .i64 (dep : Int)], .int .i64 id] w fun e w' => Found id (sps hid kb ko dep h.b h.o 0 ls) e ∧ Keeps none' w w' := by
  have H0 := Lib.hid H.low
  have HD := Lib.hid hd
  clear H hd
  have hs1 : (w.alloc (.cells #[.int .i64 hid, .pointer (some ⟨kb, ko, none⟩), .int .i64 (dep : Int)] 65)).heap.size = w.heap.size + 1 := by simp
  have hs2 : ((w.alloc (.cells #[.int .i64 hid, .pointer (some ⟨kb, ko, none⟩), .int .i64 (dep : Int)] 65)).alloc (.cells #[.int .i64 id] 3)).heap.size = w.heap.size + 2 := by simp
  have hs3 : (((w.alloc (.cells #[.int .i64 hid, .pointer (some ⟨kb, ko, none⟩), .int .i64 (dep : Int)] 65)).alloc (.cells #[.int .i64 id] 3)).alloc (.cells #[.int .i64 0, .pointer none, .int .i64 0, .int .i64 0] 67)).heap.size = w.heap.size + 3 := by simp
  have hs4 : ((((w.alloc (.cells #[.int .i64 hid, .pointer (some ⟨kb, ko, none⟩), .int .i64 (dep : Int)] 65)).alloc (.cells #[.int .i64 id] 3)).alloc (.cells #[.int .i64 0, .pointer none, .int .i64 0, .int .i64 0] 67)).alloc (.cells #[.bool false] 4)).heap.size = w.heap.size + 4 := by simp
  have b0 := heap_alloc_new w (.cells #[.int .i64 hid, .pointer (some ⟨kb, ko, none⟩), .int .i64 (dep : Int)] 65)
  have b1 := heap_alloc_new (w.alloc (.cells #[.int .i64 hid, .pointer (some ⟨kb, ko, none⟩), .int .i64 (dep : Int)] 65)) (.cells #[.int .i64 id] 3)
  have b2 := heap_alloc_new ((w.alloc (.cells #[.int .i64 hid, .pointer (some ⟨kb, ko, none⟩), .int .i64 (dep : Int)] 65)).alloc (.cells #[.int .i64 id] 3)) (.cells #[.int .i64 0, .pointer none, .int .i64 0, .int .i64 0] 67)
  have b3 := heap_alloc_new (((w.alloc (.cells #[.int .i64 hid, .pointer (some ⟨kb, ko, none⟩), .int .i64 (dep : Int)] 65)).alloc (.cells #[.int .i64 id] 3)).alloc (.cells #[.int .i64 0, .pointer none, .int .i64 0, .int .i64 0] 67)) (.cells #[.bool false] 4)
  rw [hs1] at b1
  rw [hs2] at b2
  rw [hs3] at b3
  have k1 := (Keeps.refl none' (w.alloc (.cells #[.int .i64 hid, .pointer (some ⟨kb, ko, none⟩), .int .i64 (dep : Int)] 65))).alloc (.cells #[.int .i64 id] 3)
  have k2 := (Keeps.refl none' ((w.alloc (.cells #[.int .i64 hid, .pointer (some ⟨kb, ko, none⟩), .int .i64 (dep : Int)] 65)).alloc (.cells #[.int .i64 id] 3))).alloc (.cells #[.int .i64 0, .pointer none, .int .i64 0, .int .i64 0] 67)
  have k3 := (Keeps.refl none' (((w.alloc (.cells #[.int .i64 hid, .pointer (some ⟨kb, ko, none⟩), .int .i64 (dep : Int)] 65)).alloc (.cells #[.int .i64 id] 3)).alloc (.cells #[.int .i64 0, .pointer none, .int .i64 0, .int .i64 0] 67))).alloc (.cells #[.bool false] 4)
  have HM := Lib.hid (((show Hm _ w.heap.size hid kb ko dep from b0).later k1).later (k2.next k3))
  have FD := Lib.hid (show Fnd w (w.heap.size + 4) id #[.int .i64 0, .pointer none, .int .i64 0, .int .i64 0] false ((((w.alloc (.cells #[.int .i64 hid, .pointer (some ⟨kb, ko, none⟩), .int .i64 (dep : Int)] 65)).alloc (.cells #[.int .i64 id] 3)).alloc (.cells #[.int .i64 0, .pointer none, .int .i64 0, .int .i64 0] 67)).alloc (.cells #[.bool false] 4)) from
    ⟨((k2.next k3).later _ (lt_of_block b1)).trans b1, (k3.later _ (lt_of_block b2)).trans b2, b3, ((((Keeps.refl none' w).alloc _).alloc _).alloc _).alloc _, by rw [hs4]; exact Nat.le_refl _⟩)
  have ZS := Lib.hid hs4
  clear hs1 hs2 hs3 hs4 b0 b1 b2 b3 k1 k2 k3
  refine (callsIn_wide (n := 2)).1 ?_
  refine callsIn_of_wp_marks Try.func22 rfl trivial ?_ rfl
  simp only [Try.ntmps22, List.size_toArray, List.length_cons, List.length_nil, Nat.reduceAdd, Nat.reduceSub, Array.replicate_succ, Array.replicate_zero, List.push_toArray, List.append_toArray, List.nil_append, List.cons_append]
  have c0 := HM.out.c0
  have c1 := HM.out.c1
  have c2 := HM.out.c2
  gi_wp2_with ((refine ⟨trivial, ?_⟩); gi_at_call 40; refine (callsIn_wide.2 (spots_any hid kb ko dep _)).mono ?_; rintro e w8 ⟨rfl, hw8⟩)
  have B8 := Lib.hid (Hm.new ((((w.alloc (.cells #[.int .i64 hid, .pointer (some ⟨kb, ko, none⟩), .int .i64 (dep : Int)] 65)).alloc (.cells #[.int .i64 id] 3)).alloc (.cells #[.int .i64 0, .pointer none, .int .i64 0, .int .i64 0] 67)).alloc (.cells #[.bool false] 4)) hid kb ko dep)
  rw [ZS.out] at B8
  have Z8 := Lib.hid (show (((((w.alloc (.cells #[.int .i64 hid, .pointer (some ⟨kb, ko, none⟩), .int .i64 (dep : Int)] 65)).alloc (.cells #[.int .i64 id] 3)).alloc (.cells #[.int .i64 0, .pointer none, .int .i64 0, .int .i64 0] 67)).alloc (.cells #[.bool false] 4)).alloc (.cells #[.int .i64 hid, .pointer (some ⟨kb, ko, none⟩), .int .i64 (dep : Int)] 65)).heap.size = w.heap.size + 5 from by simp)
  have F8 := Lib.hid (show Fnd w (w.heap.size + 5) id #[.int .i64 0, .pointer none, .int .i64 0, .int .i64 0] false (((((w.alloc (.cells #[.int .i64 hid, .pointer (some ⟨kb, ko, none⟩), .int .i64 (dep : Int)] 65)).alloc (.cells #[.int .i64 id] 3)).alloc (.cells #[.int .i64 0, .pointer none, .int .i64 0, .int .i64 0] 67)).alloc (.cells #[.bool false] 4)).alloc (.cells #[.int .i64 hid, .pointer (some ⟨kb, ko, none⟩), .int .i64 (dep : Int)] 65)) from by
    have := FD.out.later ((Keeps.refl none' _).alloc (.cells #[.int .i64 hid, .pointer (some ⟨kb, ko, none⟩), .int .i64 (dep : Int)] 65))
    exact ⟨this.num, this.res, this.ok, this.keeps, by rw [Z8.out]; exact Nat.le_refl _⟩)
  clear FD HM ZS c0 c1 c2
  generalize ((((w.alloc (.cells #[.int .i64 hid, .pointer (some ⟨kb, ko, none⟩), .int .i64 (dep : Int)] 65)).alloc (.cells #[.int .i64 id] 3)).alloc (.cells #[.int .i64 0, .pointer none, .int .i64 0, .int .i64 0] 67)).alloc (.cells #[.bool false] 4)).alloc (.cells #[.int .i64 hid, .pointer (some ⟨kb, ko, none⟩), .int .i64 (dep : Int)] 65) = w8 at *
  have H8 := Lib.hid (H0.out.later F8.out.keeps)
  clear hw8
  refine wpIn_rangeFunc_ownH rfl (by decide) (gf := 62) (lb := #[.pointer (some ⟨w.heap.size + 4, 0, none⟩)]) rfl trivial (enters_of Try.func62 (by kernel_rfl) rfl) (spots_stops w.heap.size hid kb ko dep h ls (w.heap.size + 4) w8 B8.out H8.out HD.out) KpS.trans (fun W l o o' hl e1 e2 _ => KpS.put W l o o' e1 e2) (Below.refl _ _) (fun _ => rfl)
    (fun pre W => Fnd w w8.heap.size id #[.int .i64 0, .pointer none, .int .i64 0, .int .i64 0] false W ∧ KpS w.heap.size w8.heap.size w8 W ∧ ∀ x ∈ vals pre, x.l.dat.id ≠ id)
    (fun c pre W => c = .ret ∧ ∃ q X, vals pre = q ++ [X] ∧ (∀ x ∈ q, x.l.dat.id ≠ id) ∧ X.l.dat.id = id ∧ Fnd w w8.heap.size id #[.int .i64 X.hid, .pointer (some ⟨X.kb, X.ko, none⟩), .int .i64 (X.dep : Int), .int .i64 (X.i : Int)] true W)
    (fun pre W W' row hh hg hr => ⟨hh.1.own (by rw [Z8.out]; omega) hg hr, kpS_own hh.2.1 hg hr, hh.2.2⟩)
    (fun c pre W W' row hh hg hr => ⟨hh.1, by
      obtain ⟨q, X, e1, e2, e3, e4⟩ := hh.2
      exact ⟨q, X, e1, e2, e3, e4.own (by rw [Z8.out]; omega) hg hr⟩⟩)
    ⟨by have := F8.out; exact ⟨this.num, this.res, this.ok, this.keeps, Nat.le_refl _⟩, KpS.refl _ _ _, fun x hx => by simp [vals] at hx⟩
    (fun x a' W => ∃ Bx, w8.heap.size ≤ Bx ∧ Sp W Bx x.1.hid x.1.kb x.1.ko (x.1.dep : Int) (x.1.i : Int) ∧ a' = { tmps := #[.agg #[.int .i64 hid, .pointer (some ⟨kb, ko, none⟩), .int .i64 (dep : Int)], .int .i64 id, .pointer (some ⟨w.heap.size, 0, none⟩), .pointer (some ⟨w.heap.size + 1, 0, none⟩), .pointer (some ⟨w.heap.size + 1 + 1, 0, none⟩), .pointer (some ⟨w.heap.size + 1 + 1 + 1, 0, none⟩), .pointer (some ⟨Bx, 0, none⟩), .agg #[.int .i64 hid, .pointer (some ⟨kb, ko, none⟩), .int .i64 (dep : Int)], .func (.func 62) #[] #[.pointer (some ⟨w.heap.size + 1 + 1 + 1 + 1, 0, none⟩)], .agg #[.int .i64 x.1.hid, .pointer (some ⟨x.1.kb, x.1.ko, none⟩), .int .i64 (x.1.dep : Int), .int .i64 (x.1.i : Int)], undef, undef, undef, undef, undef, undef, undef, undef, undef], defers := [] })
    (fun x a' u W W' row hh hg hr => by
      obtain ⟨Bx, q1, q2, q3⟩ := hh
      exact ⟨Bx, q1, block_own q2 hg hr, q3⟩) ?assign ?body ?done ?stop
  case assign =>
    rintro l pre x W K hi hK
    gi_wp2
    have ka := (Keeps.refl none' W).alloc (.cells #[.int .i64 x.1.hid, .pointer (some ⟨x.1.kb, x.1.ko, none⟩), .int .i64 (x.1.dep : Int), .int .i64 (x.1.i : Int)] 67)
    have hKK := hK _ _ (from_keeps ka) (KpS.keeps ka) ⟨hi.1.later ka, hi.2.1.trans (KpS.keeps ka), hi.2.2⟩ ⟨W.heap.size, hi.1.size, Sp.new _ _ _ _ _ _, rfl⟩
    simpa [encV] using hKK
  case body =>
    rintro l pre x a' W hl ⟨rr, hrr⟩ ⟨hF, hkp, hno⟩ ⟨Bx, hBx, bX, rfl⟩ hlt
    have mixed : Try.prog.follows .mixedOrders = true := by kernel_rfl
    obtain ⟨x, hv⟩ := x
    simp only at bX ⊢
    obtain ⟨h', ls', off, hh', hl', ha', ho', -⟩ := hv.kp hkp
    have LA := Lib.hid (fun w' (k : Keeps none' W w') => layer_any x.hid x.kb x.ko (x.dep : Int) h' ls' x.i x.l x.b off w' (hh'.home.later k) ha' hl')
    have IDC := Lib.hid (show W.cell? ⟨x.b, off + x.i * 19, none⟩ = some (.int .i64 x.l.dat.id) from by
      obtain ⟨b', o', e, hc⟩ := hh'.home.lies (by have := (List.getElem?_eq_some_iff.1 hl').1; omega)
      rw [ha'] at e
      cases e
      exact hc x.i x.l hl' 0 _ (by cases x.l; rfl))
    have FF := Lib.hid hF
    have KP := Lib.hid hkp
    have NO := Lib.hid hno
    have BX := Lib.hid bX
    have KD := Lib.hid (show Keeps none' W W.drew from (Keeps.refl none' W).drew)
    have KR := Lib.hid (Keeps.refl none' W)
    have t0 := bX.c0
    have t1 := bX.c1
    have t2 := bX.c2
    have t3 := bX.c3
    have n0 := hF.num.c
    have i0 := IDC.out
    clear hF hkp hno hrr hh' hl' ha' ho' bX
    gi_wp2
    gi_region_with_o (refine ⟨trivial, rfl, ?_⟩; gi_at_call 23; refine (CallsIn.inRound l (callsIn_wide.2 (LA.out _ KD.out))).mono ?_; rintro e w' ⟨rfl, hk⟩; have KW := Lib.hid (KD.out.next hk); have i1 := KW.out.cell IDC.out; have n1 := KW.out.cell FF.out.num.c)
    all_goals
      have F2 := Lib.hid (FF.out.later KW.out)
      have KP2 := Lib.hid (KP.out.trans (KpS.keeps KW.out))
      have B2 := Lib.hid (BX.out.later KW.out)
      clear t0 t1 t2 t3 n0 i0 hk i1 n1 LA IDC
      obtain ⟨⟨r0, r1, r2, r3⟩, rf⟩ := four_cells F2.out.res
      obtain ⟨o0, of0⟩ := one_cell F2.out.ok
      have rf0 := rf 0
      have rf1 := rf 1
      have rf2 := rf 2
      have rf3 := rf 3
      have s0 := B2.out.c0
      have s1 := B2.out.c1
      have s2 := B2.out.c2
      have s3 := B2.out.c3
      clear rf
      by_cases he : x.l.dat.id = id
      · have e1 : (x.l.dat.id == id) = true := by simpa using he
        have HE := Lib.hid he
        have HIT := Lib.hid (F2.out.hit (.int .i64 x.hid) (.pointer (some ⟨x.kb, x.ko, none⟩)) (.int .i64 (x.dep : Int)) (.int .i64 (x.i : Int)) true)
        clear he
        gi_wp2
        exact ⟨(from_keeps KW.out).trans (((((KeepsOthers.setCell _ _ _).trans (KeepsOthers.setCell _ _ _)).trans (KeepsOthers.setCell _ _ _)).trans (KeepsOthers.setCell _ _ _)).trans (KeepsOthers.setCell _ _ _) |>.from _), rfl, vals pre, x, by simp [vals], NO.out, HE.out, HIT.out⟩
      · have e1 : (x.l.dat.id == id) = false := by simpa using he
        have HE := Lib.hid he
        clear he
        gi_wp2
        refine ⟨from_keeps KW.out, KpS.keeps KW.out, F2.out, KP2.out, fun y hy => ?_⟩
        simp only [vals, List.map_append, List.map_cons, List.map_nil] at hy
        rcases List.mem_append.1 hy with hy | hy
        · exact NO.out y hy
        · rw [List.mem_singleton.1 hy]
          exact HE.out
  case done =>
    rintro D xs W hD hS ⟨hF, hkp, hno⟩ hK
    have hFD : findP id (sps hid kb ko dep h.b h.o 0 ls) = none := by rw [← hS]; exact findP_none hno
    obtain ⟨⟨r0, r1, r2, r3⟩, rf⟩ := four_cells hF.res
    obtain ⟨o0, of0⟩ := one_cell hF.ok
    have rf0 := rf 0
    have rf1 := rf 1
    have rf2 := rf 2
    have rf3 := rf 3
    have FD := Lib.hid hFD
    have HT := Lib.hid (hF.hit (.int .i64 0) (.pointer none) (.int .i64 0) (.int .i64 0) false)
    have KD := Lib.hid (And.intro hK hD)
    clear hF hkp hno hS hFD rf hK hD
    gi_wp2
    have hd2 := KD.out.2
    rw [Z8.out] at hd2
    have oth : ∀ (w : World) (b c i : Nat) (u : Value), b ≠ c → (w.setCell ⟨c, i, none⟩ u).heap[b]? = w.heap[b]? := fun w b c i u hb => Below.heap_setCell _ _ _ _ hb
    have hK2 : (((((W.setCell ⟨w.heap.size + 1 + 1, 0, none⟩ (.int .i64 0)).setCell ⟨w.heap.size + 1 + 1, 1, none⟩ (.pointer none)).setCell ⟨w.heap.size + 1 + 1, 2, none⟩ (.int .i64 0)).setCell ⟨w.heap.size + 1 + 1, 3, none⟩ (.int .i64 0)).setCell ⟨w.heap.size + 1 + 1 + 1, 0, none⟩ (.bool false)).heap[D]? = some (.deferred (some [])) := by
      rw [oth _ _ _ _ _ (by omega), oth _ _ _ _ _ (by omega), oth _ _ _ _ _ (by omega), oth _ _ _ _ _ (by omega), oth _ _ _ _ _ (by omega)]
      exact KD.out.1
    refine ⟨by simp, .inl ⟨_, _, rfl, run_takeDeferred hK2, ?_⟩⟩
    have HP := HT.out.own (B := w8.heap.size) (by rw [Z8.out]; omega) (grownBy_putObj' _ D (.deferred none)) (fun r e => by cases e; exact ⟨KD.out.2, _, hK2, rfl⟩)
    refine ⟨_, results_two rfl _ _ (w.heap.size + 1 + 1) (w.heap.size + 1 + 1 + 1) 67 _ (.bool false) _ _ rfl HP.res Try.underlying67 rfl (by exact size67) rfl (load_bool _ _ _ HP.ok), ?_, HP.keeps⟩
    unfold Found
    rw [FD.out]
  case stop =>
    rintro D c pre W hD hpre ⟨rfl, q, X, e1, e2, e3, hF⟩ hK
    have hFD : findP id (sps hid kb ko dep h.b h.o 0 ls) = some X := by
      obtain ⟨r, hr⟩ := hpre
      rw [← hr, e1, List.append_assoc]
      exact findP_some e2 e3
    clear e1 e2 e3 hpre
    gi_wp2
    refine ⟨by simp, .inl ⟨_, _, rfl, run_takeDeferred hK, ?_⟩⟩
    have HP := hF.own (B := w8.heap.size) (by rw [Z8.out]; omega) (grownBy_putObj' _ D (.deferred none)) (fun r e => by cases e; exact ⟨hD, _, hK, rfl⟩)
    refine ⟨_, results_two rfl _ _ (w.heap.size + 1 + 1) (w.heap.size + 1 + 1 + 1) 67 _ (.bool true) _ _ rfl HP.res Try.underlying67 rfl (by exact size67) rfl (load_bool _ _ _ HP.ok), ?_, HP.keeps⟩
    unfold Found
    rw [hFD]
end Go.Proofs.Ytfcpbpfemmdklaa
