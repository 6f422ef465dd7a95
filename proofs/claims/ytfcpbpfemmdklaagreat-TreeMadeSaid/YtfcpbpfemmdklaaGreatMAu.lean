/- Texts of a layer, one behind the other. -/
import Derived.Test.YtfcpbpfemmdklaaGreatMAt
import Derived.Test.YtfcpbpfemmdklaaGreatMAi
import Derived.Test.YtfcpbpfemmdklaaGreatMAf
import Derived.Test.YtfcpbpfemmdklaaGreatMAm
import Derived.OpenShut
/- Whether a document is right (21): what the loop over its layers keeps. -/
namespace Go.Proofs.YtfcpbpfemmdklaaGreat.Tr
open Go.RowKit Go.Shelf
set_option linter.unusedSimpArgs false
set_option linter.unusedVariables false

/-- append as one step. -/
noncomputable def appX (t : TypeId) (w : World) (v u : Value) : Result Value := (Builtin.append_ #[33, 33] t #[v, u]).run Tryz.prog w
theorem app_step {ev : Operand → Value} {x y : Operand} {w : World} {d : Option Tmp} {t : TypeId} {p : String} {af} {g} :
    (execOp ev { dst := d, op := Op.call { callee := Callee.builtin Builtin.append, args := #[x, y], argTypes := #[33, 33] }, type := t, pos := p, after := af, guard := g }).run Tryz.prog w = (appX t w (ev x) (ev y)).andThen fun r w' => .ok (.value r) w' := by
  unfold execOp appX
  simp only [resolve, invoke, builtin, Sem.run_bind, Sem.run_pure, Result.andThen_ok, List.map_toArray, List.map_cons, List.map_nil]
/-- What stands while the layers are looked at: the call's own blocks. -/
structure RI (w : World) (n₁ : Nat) (x y z : Int) (h : Hd) (ids : List Int) (W : World) : Prop where
  doc : Dc W w.heap.size x y z h
  res : Boxed W (w.heap.size + 1) 4 (.bool false)
  row : ∃ aa cap, Boxed W (w.heap.size + 1 + 1) 33 (.slice aa ids.length cap) ∧ W.ownsRow n₁ 3 1 (.slice aa ids.length cap) ids.length (ints ids)
  keeps : Keeps none' w W
  size : n₁ ≤ W.heap.size
theorem owns_own {W W' : World} {row : Option Nat} {B base e k n : Nat} {v : Value} {xs : List Value} (h : W.ownsRow base e k v n xs) (hg : W.grownBy W' row) (hr : ∀ r, row = some r → B ≤ r ∧ ∃ o : Obj, W.heap[r]? = some o ∧ o.isCells = false) : W'.ownsRow base e k v n xs :=
  ownsRow_kept h fun b hb => by
    rcases h.2 with ⟨rfl, _⟩ | ⟨g, cap, cur, rfl, _, hgb, _⟩
    · cases hb
    · cases hb
      exact (block_own hgb hg hr).trans hgb.symm
theorem owns_later {W W' : World} {base e k n : Nat} {v : Value} {xs : List Value} (h : W.ownsRow base e k v n xs) (kk : Keeps none' W W') : W'.ownsRow base e k v n xs :=
  ownsRow_kept h fun b hb => by
    rcases h.2 with ⟨rfl, _⟩ | ⟨g, cap, cur, rfl, _, hgb, _⟩
    · cases hb
    · cases hb
      exact kk.later _ (lt_of_block hgb)
theorem box_later {W W' : World} {B : Nat} {t : TypeId} {v : Value} (h : Boxed W B t v) (k : Keeps none' W W') : Boxed W' B t v := (k.later B h.lt).trans h
theorem RI.own {w W W' : World} {n₁ : Nat} {x y z : Int} {h : Hd} {ids : List Int} {row : Option Nat} {B : Nat} (H : RI w n₁ x y z h ids W) (hB : w.heap.size ≤ B) (hg : W.grownBy W' row) (hr : ∀ r, row = some r → B ≤ r ∧ ∃ o : Obj, W.heap[r]? = some o ∧ o.isCells = false) : RI w n₁ x y z h ids W' := by
  obtain ⟨a, b, ⟨aa, cap, c1, c2⟩, d, e⟩ := H
  exact ⟨block_own a hg hr, block_own b hg hr, ⟨aa, cap, block_own c1 hg hr, owns_own c2 hg hr⟩, keeps_own d hB hg hr, Nat.le_trans e hg.size⟩
theorem RI.later {w W W' : World} {n₁ : Nat} {x y z : Int} {h : Hd} {ids : List Int} (H : RI w n₁ x y z h ids W) (k : Keeps none' W W') : RI w n₁ x y z h ids W' := by
  obtain ⟨a, b, ⟨aa, cap, c1, c2⟩, d, e⟩ := H
  exact ⟨a.later k, box_later b k, ⟨aa, cap, box_later c1 k, owns_later c2 k⟩, d.next k, Nat.le_trans e k.size⟩
theorem kpS_row {n₀ n₁ n : Nat} {W W' : World} {v : Value} {xs : List Value} (h : W.ownsRow n₁ 3 1 v n xs) (hn : n₀ ≤ n₁) (hg : W.grownBy W' v.ownBlock) : KpS n₀ n₁ W W' :=
  ⟨hg.os, hg.tape, hg.output, hg.size, fun b c t f e hb => hg.block b (lt_of_block e) fun e2 => by
    rcases h.2 with ⟨rfl, _⟩ | ⟨g, cap, cur, rfl, hge, hgb, _⟩
    · cases e2
    · have e3 : b = g := by simpa [Value.ownBlock] using e2
      subst e3
      rw [hgb] at e
      cases e
      rcases hb with hb | ⟨_, hb⟩
      · omega
      · exact hb rfl⟩
/-- A number more. -/
theorem push_row {w W : World} {n₁ n cap : Nat} {x y z : Int} {h : Hd} {ids : List Int} {aa : Option Addr} (H : RI w n₁ x y z h ids W) (hn : ids.length = n) (hle : w.heap.size + 3 ≤ n₁) (hb : Boxed W (w.heap.size + 1 + 1) 33 (.slice aa n cap)) (hr : W.ownsRow n₁ 3 1 (.slice aa n cap) n (ints ids)) (hlen : n ≤ 8192) (id : Int) :
    ∃ aa' cap' w2, appX 33 (W.alloc (.cells #[.int .i64 id] 3)) (.slice aa n cap) (.slice (some ⟨W.heap.size, 0, none⟩) 1 1) = .ok (.slice aa' (n + 1) cap') w2 ∧ w2.cell? ⟨w.heap.size + 1 + 1, 0, none⟩ = some (.slice aa n cap) ∧ w2.frozen? ⟨w.heap.size + 1 + 1, 0, none⟩ = false ∧
      RI w n₁ x y z h (ids ++ [id]) (w2.setCell ⟨w.heap.size + 1 + 1, 0, none⟩ (.slice aa' (n + 1) cap')) ∧ KeepsOthers W (w2.setCell ⟨w.heap.size + 1 + 1, 0, none⟩ (.slice aa' (n + 1) cap')) ∧ KpS (w.heap.size + 1) n₁ W (w2.setCell ⟨w.heap.size + 1 + 1, 0, none⟩ (.slice aa' (n + 1) cap')) := by
  obtain ⟨i0, hi, hz0, hz1, hz2⟩ := info_parts info3
  have hra : (W.alloc (.cells #[.int .i64 id] 3)).ownsRow n₁ 3 1 (.slice aa n cap) n (ints ids) := owns_later hr ((Keeps.refl none' W).alloc _)
  obtain ⟨v', w2, hrun, o1, o2, o3⟩ := run_append_own (P := Tryz.prog) (w := W.alloc (.cells #[.int .i64 id] 3)) n₁ 33 33 3 i0 (.int .i64 0) 1 8 Tryz.underlying33 hi hz0 hz1 hz2 rfl (by decide) _ n _ hra ⟨W.heap.size, 0, none⟩ 1 1 [.int .i64 id] rfl
    (by
      intro j u hj
      match j, hj with
      | 0, hj => cases hj; exact (congrArg (fun a => (W.alloc (.cells #[.int .i64 id] 3)).cell? a) (show (⟨W.heap.size, 0, none⟩ : Addr).add 0 = ⟨W.heap.size, 0, none⟩ from rfl)).trans (one_cell (t := 3) (heap_alloc_new W (.cells #[.int .i64 id] 3))).1
      | j + 1, hj => simp at hj)
    (by intro u hu; rw [List.mem_singleton.1 hu]; rfl) (by unfold maxLen; omega) (by omega) (by have := H.size; simp; omega)
  obtain ⟨g, cap', rfl⟩ := ownsRow_succ o1
  have ka := (Keeps.refl none' W).alloc (.cells #[.int .i64 id] 3)
  have hbelow : ∀ r, (Value.slice aa n cap).ownBlock = some r → n₁ ≤ r := by
    intro r e
    rcases hr.2 with ⟨e2, _⟩ | ⟨g', cap2, cur, e2, hge, _⟩
    · rw [e2] at e; cases e
    · rw [e2] at e; cases e; exact hge
  have b2 : Boxed w2 (w.heap.size + 1 + 1) 33 (.slice aa n cap) := (hb.alloc _).kept o2 ((hb.alloc _).not_row (by decide) hra)
  have r2 : Boxed w2 (w.heap.size + 1) 4 (.bool false) := (H.res.alloc _).kept o2 ((H.res.alloc _).not_row (by decide) hra)
  have d2 : Dc w2 w.heap.size x y z h := (o2.block _ (by have := H.doc.lt; simp; omega) (fun e => by have := hbelow _ e.symm; omega)).trans (H.doc.later ka)
  have oth : ∀ (w : World) (b c i : Nat) (u : Value), b ≠ c → (w.setCell ⟨c, i, none⟩ u).heap[b]? = w.heap[b]? := fun w b c i u hb => Below.heap_setCell _ _ _ _ hb
  have k2 : Keeps none' w w2 := (H.keeps.next ka).grown o2 (fun k hk e => by have := hbelow k e; omega)
  have len' : (ids ++ [id]).length = n + 1 := by simp [hn]
  refine ⟨some ⟨g, 0, none⟩, cap', w2, hrun, b2.cell, b2.frozen, ⟨?_, ?_, ⟨some ⟨g, 0, none⟩, cap', ?_, ?_⟩, ?_, ?_⟩, ?_, ?_⟩
  · exact (oth _ _ _ _ _ (by omega)).trans d2
  · exact (oth _ _ _ _ _ (by omega)).trans r2
  · rw [len']; exact b2.set _
  · rw [len']
    have e : ints (ids ++ [id]) = ints ids ++ [.int .i64 id] := by simp [ints]
    rw [e]
    exact o1.kept (grownBy_setCell' w2 _ _) (.inr (b2.not_row (by decide) o1).symm)
  · exact k2.setCell (fun e => by have e' : w.heap.size + 1 + 1 < w.heap.size := e; omega) _
  · have := H.size
    have := o2.size
    have e3 : (w2.setCell ⟨w.heap.size + 1 + 1, 0, none⟩ (.slice (some ⟨g, 0, none⟩) (n + 1) cap')).heap.size = w2.heap.size := by simp [World.setCell]
    have e4 := ka.size
    rw [e3]
    omega
  · refine ((KeepsOthers.alloc W _).trans (KeepsOthers.of_grownBy o2 fun j o ej hj => ?_)).trans (KeepsOthers.setCell _ _ _)
    rcases hra.2 with ⟨e2, _⟩ | ⟨g', cap2, cur, e2, _, hgb, _⟩
    · rw [e2] at ej; cases ej
    · rw [e2] at ej
      cases ej
      rw [hgb] at hj
      cases hj
      rfl
  · exact ((KpS.alloc _ _ W _).trans (kpS_row hra (by omega) o2)).trans (kpS_set w2 _ 0 _ (by omega) (by omega))
/-- What a right document's spots have. -/
theorem sps_all {P : Nat → Dat → Prop} : ∀ (m : Nat) (ls : List Loc), SizeOf.sizeOf ls ≤ m → ∀ (hid : Int) (kb ko dep b o i : Nat), AllN P dep (er ls) → ∀ X ∈ sps hid kb ko dep b o i ls, P (X.dep + 1) X.l.dat ∧ (X.l.dat.kind ≠ 1 → X.l.kids = [])
  | 0, ls, hs, _, _, _, _, _, _, _, _, _, _ => by cases ls <;> simp at hs
  | m + 1, [], hs, _, _, _, _, _, _, _, _, X, hX => by rw [sps] at hX; cases hX
  | m + 1, .mk d p m' q k kids :: ls, hs, hid, kb, ko, dep, b, o, i, A, X, hX => by
    rw [sps] at hX
    rw [er, AllN] at A
    simp only [List.cons.sizeOf_spec, Loc.mk.sizeOf_spec] at hs
    rcases List.mem_cons.1 hX with rfl | hX
    · refine ⟨A.1.1, fun e => ?_⟩
      have h0 := A.1.2 e
      have h1 := er_length kids
      rw [h0] at h1
      exact List.length_eq_zero_iff.1 h1.symm
    · rcases List.mem_append.1 hX with hX | hX
      · exact sps_all m kids (by omega) _ _ _ _ _ _ _ A.2.1 X hX
      · exact sps_all m ls (by omega) _ _ _ _ _ _ _ A.2.2 X hX
theorem sps_dat : ∀ (m : Nat) (ls : List Loc), SizeOf.sizeOf ls ≤ m → ∀ (hid : Int) (kb ko dep b o i : Nat), ∀ X ∈ sps hid kb ko dep b o i ls, X.l.dat ∈ dats (er ls)
  | 0, ls, hs, _, _, _, _, _, _, _, _, _ => by cases ls <;> simp at hs
  | m + 1, [], hs, _, _, _, _, _, _, _, X, hX => by rw [sps] at hX; cases hX
  | m + 1, .mk d p m' q k kids :: ls, hs, hid, kb, ko, dep, b, o, i, X, hX => by
    rw [sps] at hX
    rw [er, dats]
    simp only [List.cons.sizeOf_spec, Loc.mk.sizeOf_spec] at hs
    rcases List.mem_cons.1 hX with rfl | hX
    · simp [Loc.dat]
    · rcases List.mem_append.1 hX with hX | hX
      · exact List.mem_cons.2 (.inr (List.mem_append.2 (.inl (sps_dat m kids (by omega) _ _ _ _ _ _ _ X hX))))
      · exact List.mem_cons.2 (.inr (List.mem_append.2 (.inr (sps_dat m ls (by omega) _ _ _ _ _ _ _ X hX))))
/-- What the loop's round needs of a layer. -/
theorem spot_right {n₀ : Nat} {W : World} {x y z : Int} {h : Hd} {X : Spt} (V : Vld n₀ W X) (R : Rt x y X.l.dat) (hid : 1 ≤ X.l.dat.id ∧ X.l.dat.id < z) (hxy : areaP x y = true) (hk : X.l.dat.kind ≠ 1 → X.l.kids = []) :
    ∃ o, W.cell? ⟨X.b, o, none⟩ = some (.int .i64 X.l.dat.id) ∧
      (∀ w', Keeps none' W w' → Calls Tryz.prog 34 #[.agg #[.int .i64 X.hid, .pointer (some ⟨X.kb, X.ko, none⟩), .int .i64 (X.dep : Int), .int .i64 (X.i : Int)]] w' fun e w'' => e = .returned (.pointer (some ⟨X.b, o, none⟩)) ∧ Keeps none' w' w'') ∧
      (∀ w', Keeps none' W w' → Calls Tryz.prog 43 #[docV x y z h, .pointer (some ⟨X.b, o, none⟩)] w' fun e w'' => e = .returned (.bool true) ∧ Keeps none' w' w'') := by
  obtain ⟨h', ls', off, H, hl, ha, -, -⟩ := V
  obtain ⟨b', o', e, hc⟩ := H.home.lies (by have := (List.getElem?_eq_some_iff.1 hl).1; omega)
  rw [ha] at e
  cases e
  have A := All.one H.home.rep hl
  have hb : (-9223372036854775808 ≤ x * y ∧ x * y ≤ 9223372036854775807) := by
    have a := hxy
    simp only [areaP, sideP, Bool.and_eq_true, decide_eq_true_eq] at a
    have : 0 ≤ x * y := Int.mul_nonneg (by omega) (by omega)
    omega
  refine ⟨off + X.i * 19, ?_, fun w' k => layer_any X.hid X.kb X.ko (X.dep : Int) h' ls' X.i X.l X.b off w' (H.home.later k) ha hl, fun w' k => ?_⟩
  · exact hc X.i X.l hl 0 _ (by cases X.l; rfl)
  · obtain ⟨hid0, kb, ko, dep, i, l, b, oo⟩ := X
    obtain ⟨d, p, m, q, kh, kids⟩ := l
    rw [All] at A
    have LP : LayP W b (off + i * 19) d p m q kh := fun j u hj => hc i _ hl j u hj
    refine has_right x y z h b (off + i * 19) d p m q kh w' (LP.later k) R hid hb (fun e => ?_) (Rds.later ⟨A.1, A.2.1, A.2.2.1⟩ k)
    have h0 : kids = [] := hk e
    subst h0
    have h1 := A.2.2.2.1.1.len
    rw [flat] at h1
    simp at h1
    omega
end Go.Proofs.YtfcpbpfemmdklaaGreat.Tr

/- A document that edits made is right (21). -/
namespace Go.Proofs.YtfcpbpfemmdklaaGreat.Tr
open Go.RowKit Go.Shelf
attribute [local go_sem] Oper.semAt_some
set_option linter.unusedSimpArgs false
set_option linter.unusedVariables false

/-- append as an operation by itself. -/
noncomputable def appS (t : TypeId) (v u : Value) : Sem Next := execOp (fun o => match o with | .tmp 0 => v | _ => u) { dst := none, op := Op.call { callee := Callee.builtin Builtin.append, args := #[.tmp 0, .tmp 1], argTypes := #[33, 33] }, type := t, pos := "", after := #[], guard := none }
theorem app_exec {ev : Operand → Value} {x y : Tmp} {d : Option Tmp} {t : TypeId} {p : String} {af} {g} :
    execOp ev { dst := d, op := Op.call { callee := Callee.builtin Builtin.append, args := #[.tmp x, .tmp y], argTypes := #[33, 33] }, type := t, pos := p, after := af, guard := g } = appS t (ev (.tmp x)) (ev (.tmp y)) := by
  unfold appS execOp
  simp only [resolve, List.map_toArray, List.map_cons, List.map_nil]
theorem run_appS {t : TypeId} {v u : Value} {w : World} : (appS t v u).run Tryz.prog w = (appX t w v u).andThen fun r w' => .ok (.value r) w' := by
  unfold appS
  rw [app_step]
  rfl
attribute [local go_sem ↓ high] app_exec
attribute [local go_sem] run_appS
theorem results_bool {fn : Func} {p : Tmp} (h : fn.results = #[.cell p 4]) (tmps : Array Value) (w : World) (g : Nat) (b : Bool) (hp : tmps.getD p undef = .pointer (some ⟨g, 0, none⟩)) (hg : w.heap[g]? = some (.cells #[.bool b] 4 (0, 0))) :
    (results fn tmps).run Tryz.prog w = .ok (.bool b) w := by
  have hp' : tmps[p]?.getD undef = .pointer (some ⟨g, 0, none⟩) := by simpa using hp
  simp [results, h, hp', asAddr, load_bool w g b hg]
set_option maxRecDepth 100000 in
set_option maxHeartbeats 6400000 in
theorem right_any (x y z : Int) (h : Hd) (ls : List Loc) (w : World) (D : DocV w h ls) (hxy : areaP x y = true) (I : Inv (Rt x y) z (er ls)) :
    Calls Tryz.prog 21 #[docV x y z h] w fun en w' => en = .returned (.bool true) ∧ Keeps none' w w' := by
  unfold docV
  have DD := Lib.hid D
  have II := Lib.hid I
  have XY := Lib.hid hxy
  have ar := fun w' => area16 x y w'
  rw [hxy] at ar
  have AR := Lib.hid ar
  have RT := Lib.hid (fun w' => root_any w.heap.size w')
  have zb : decide (z < 1) = false := by have := I.good.one; simp; omega
  have zb2 : ¬ z < 1 := by have := I.good.one; omega
  have ka := (Keeps.refl none' w).alloc (.cells #[.int .i64 x, .int .i64 y, .int .i64 z, .slice h.a h.n h.c] 26)
  have kb := (Keeps.refl none' (w.alloc (.cells #[.int .i64 x, .int .i64 y, .int .i64 z, .slice h.a h.n h.c] 26))).alloc (.cells #[.bool false] 4)
  have A1 := Lib.hid ((Dc.new w x y z h).later kb)
  have s1 : (w.alloc (.cells #[.int .i64 x, .int .i64 y, .int .i64 z, .slice h.a h.n h.c] 26)).heap.size = w.heap.size + 1 := by simp
  have s2 : ((w.alloc (.cells #[.int .i64 x, .int .i64 y, .int .i64 z, .slice h.a h.n h.c] 26)).alloc (.cells #[.bool false] 4)).heap.size = w.heap.size + 1 + 1 := by simp
  have R1 := Boxed.new (w.alloc (.cells #[.int .i64 x, .int .i64 y, .int .i64 z, .slice h.a h.n h.c] 26)) 4 (.bool false)
  rw [s1] at R1
  have N1 := Boxed.new ((w.alloc (.cells #[.int .i64 x, .int .i64 y, .int .i64 z, .slice h.a h.n h.c] 26)).alloc (.cells #[.bool false] 4)) 33 (.slice none 0 0)
  rw [s2] at N1
  have kc := (Keeps.refl none' ((w.alloc (.cells #[.int .i64 x, .int .i64 y, .int .i64 z, .slice h.a h.n h.c] 26)).alloc (.cells #[.bool false] 4))).alloc (.cells #[.slice none 0 0] 33)
  have RI0 := Lib.hid (show RI w (w.heap.size + 3) x y z h [] (((w.alloc (.cells #[.int .i64 x, .int .i64 y, .int .i64 z, .slice h.a h.n h.c] 26)).alloc (.cells #[.bool false] 4)).alloc (.cells #[.slice none 0 0] 33)) from
    ⟨A1.out.later kc, box_later R1 kc, ⟨none, 0, N1, ⟨rfl, .inl ⟨rfl, rfl⟩⟩⟩, (ka.next kb).next kc, by simp⟩)
  have NN := Lib.hid N1
  clear s1 s2 R1 N1 kc ka kb D I hxy ar
  refine (callsIn_wide (n := 2)).1 ?_
  refine callsIn_of_wp_marks Tryz.func21 rfl trivial ?_ rfl
  simp only [Tryz.ntmps21, List.size_toArray, List.length_cons, List.length_nil, Nat.reduceAdd, Nat.reduceSub, Array.replicate_succ, Array.replicate_zero, List.push_toArray, List.append_toArray, List.nil_append, List.cons_append]
  have c0 := A1.out.c0
  have c1 := A1.out.c1
  have c2 := A1.out.c2
  gi_wp2_with (first
    | ((refine ⟨trivial, ?_⟩); gi_at_call 41; refine (callsIn_wide.2 (AR.out _)).mono ?_; rintro e w2 ⟨rfl, rfl⟩)
    | ((refine ⟨trivial, ?_⟩); gi_at_call 32; refine (callsIn_wide.2 (RT.out _)).mono ?_; rintro e w3 ⟨rfl, hk3⟩; have R3 := Lib.hid (RI0.out.later hk3); have K3 := Lib.hid hk3; clear hk3)
    | ((refine ⟨trivial, ?_⟩); gi_at_call 42; refine (callsIn_wide.2 (spots_any 0 w.heap.size 3 0 _)).mono ?_; rintro e w8 ⟨rfl, hw8⟩; have E8 := Lib.hid hw8; clear hw8))
  have kh : Keeps none' w3 w8 := by rw [E8.out]; exact (Keeps.refl none' w3).alloc _
  have B8 := Lib.hid (show Hm w8 w3.heap.size 0 w.heap.size 3 ((0 : Nat) : Int) from by rw [E8.out]; exact Hm.new _ _ _ _ _)
  have R4 := R3.out.later kh
  have Z8 := Lib.hid (show w.heap.size + 3 ≤ w8.heap.size from R4.size)
  have R8 := Lib.hid (show RI w w8.heap.size x y z h [] w8 from ⟨R4.doc, R4.res, ⟨none, 0, box_later (box_later NN.out K3.out) kh, ⟨rfl, .inl ⟨rfl, rfl⟩⟩⟩, R4.keeps, Nat.le_refl _⟩)
  have H8 := Lib.hid (show HomeN (w.heap.size + 1) w8 w.heap.size 3 h ls from ⟨(DD.out.later R4.keeps).home R4.doc, by omega, fun u hu => by have := (DD.out.row.1.at' u hu).2.1; omega, fun b hb => by
    unfold blks at hb
    obtain ⟨hd, hm, hb⟩ := List.mem_flatMap.1 hb
    obtain ⟨e, k, vs, o⟩ := All.mem DD.out.rep hd hm
    obtain ⟨u, hu, rfl⟩ := Hd.blk_mem hb
    have := (o.1.at' u hu).2.1
    omega⟩)
  have CN := Lib.hid (show cnt ls ≤ 4096 from by rw [cnt_eq]; exact II.out.good.cnt)
  clear kh R4 R3 K3 NN E8 c0 c1 c2 zb zb2 A1 RI0 AR RT
  refine wpIn_rangeFunc_ownH rfl (by decide) (gf := 66) (lb := #[.pointer (some ⟨w3.heap.size, 0, none⟩)]) rfl trivial (enters_of Tryz.func66 (by kernel_rfl) rfl) (spotsT_stops (w.heap.size + 1) 0 w.heap.size 3 0 h ls w3.heap.size w8 B8.out H8.out (by have := CN.out; omega)) KpS.trans (fun W l o o' hl e1 e2 _ => KpS.put W l o o' e1 e2) (Below.refl _ _) (fun _ => rfl)
    (fun pre W => RI w w8.heap.size x y z h ((valsT pre).map (fun X => X.l.dat.id)) W ∧ KpS (w.heap.size + 1) w8.heap.size w8 W)
    (fun _ _ _ => False)
    (fun pre W W' row hh hg hr => ⟨hh.1.own (by have := Z8.out; omega) hg hr, kpS_own hh.2 hg hr⟩)
    (fun _ _ _ _ _ hh _ _ => hh)
    ⟨R8.out, KpS.refl _ _ _⟩
    (fun X a' W => ∃ Bx, w8.heap.size ≤ Bx ∧ Sp W Bx X.1.hid X.1.kb X.1.ko (X.1.dep : Int) (X.1.i : Int) ∧ a' = { tmps := #[.agg #[.int .i64 x, .int .i64 y, .int .i64 z, .slice h.a h.n h.c], .pointer (some ⟨w.heap.size, 0, none⟩), .pointer (some ⟨w.heap.size + 1, 0, none⟩), .pointer (some ⟨w.heap.size + 1 + 1, 0, none⟩), .pointer (some ⟨Bx, 0, none⟩), .pointer (some ⟨w.heap.size, 0, none⟩), .int .i64 x, .pointer (some ⟨w.heap.size, 1, none⟩), .int .i64 y, .bool true, .bool false, .bool false, .pointer (some ⟨w.heap.size, 2, none⟩), .int .i64 z, .bool false, .bool false, .agg #[.int .i64 0, .pointer (some ⟨w.heap.size, 3, none⟩), .int .i64 0], .func (.func 66) #[] #[.pointer (some ⟨w3.heap.size, 0, none⟩)], .agg #[.int .i64 X.1.hid, .pointer (some ⟨X.1.kb, X.1.ko, none⟩), .int .i64 (X.1.dep : Int), .int .i64 (X.1.i : Int)], undef, undef, undef, undef, undef, undef, undef, undef, undef, undef, undef, undef, undef, undef, undef, undef, undef, undef, undef, undef, undef, undef, undef, undef, undef, undef], defers := [] })
    (fun X a' u W W' row hh hg hr => by
      obtain ⟨Bx, q1, q2, q3⟩ := hh
      exact ⟨Bx, q1, block_own q2 hg hr, q3⟩) ?assign ?body ?done ?stop
  case assign =>
    rintro l pre X W K hi hK
    gi_wp2
    have ka := (Keeps.refl none' W).alloc (.cells #[.int .i64 X.1.hid, .pointer (some ⟨X.1.kb, X.1.ko, none⟩), .int .i64 (X.1.dep : Int), .int .i64 (X.1.i : Int)] 86)
    have hKK := hK _ _ (from_keeps ka) (KpS.keeps ka) ⟨hi.1.later ka, hi.2.trans (KpS.keeps ka)⟩ ⟨W.heap.size, hi.1.size, Sp.new _ _ _ _ _ _, rfl⟩
    simpa [encT] using hKK
  case body =>
    rintro l pre X a' W hl ⟨rr, hrr⟩ ⟨hRI, hkp⟩ ⟨Bx, hBx, bX, rfl⟩ hlt
    have mixed : Tryz.prog.follows .mixedOrders = true := by kernel_rfl
    obtain ⟨X, hv, hmem⟩ := X
    simp only at bX ⊢
    obtain ⟨⟨hdep, hRt⟩, hkids⟩ := sps_all (P := Deep64 (Rt x y)) _ ls (Nat.le_refl _) 0 w.heap.size 3 0 h.b h.o 0 II.out.all X hmem
    have hrange := II.out.good.range _ (sps_dat _ ls (Nat.le_refl _) 0 w.heap.size 3 0 h.b h.o 0 X hmem)
    obtain ⟨o, hc, hlay, hhas⟩ := spot_right (h := h) (hv.kp hkp) hRt hrange XY.out hkids
    obtain ⟨ids, hids⟩ : ∃ ids, ids = (valsT pre).map (fun X => X.l.dat.id) := ⟨_, rfl⟩
    rw [← hids] at hRI
    have hlen : ids.length = pre.length := by rw [hids]; simp [valsT]
    obtain ⟨n, hn⟩ : ∃ n, ids.length = n := ⟨_, rfl⟩
    obtain ⟨aa, cap, hb, hr2⟩ := hRI.row
    rw [hn] at hb hr2
    have hn4 : n < 4096 := by have := CN.out; omega
    have d1 : decide ((X.dep : Int) ≥ 64) = false := by simp; omega
    have d2 : decide ((64 : Int) ≤ (X.dep : Int)) = false := by simp; omega
    have d3 : decide ((n : Int) ≥ 4096) = false := by simp; omega
    have d4 : decide ((4096 : Int) ≤ (n : Int)) = false := by simp; omega
    have d5 : ¬ (64 ≤ X.dep) := by omega
    have d6 : ¬ (4096 ≤ n) := by omega
    have LA := Lib.hid hlay
    have HA := Lib.hid hhas
    simp only [docV] at hhas
    have HB := Lib.hid hhas
    have NX := Lib.hid (And.intro hn (And.intro hn4 hids))
    have RW := Lib.hid hRI
    have KP := Lib.hid hkp
    have BX := Lib.hid bX
    have HC := Lib.hid hc
    have BB := Lib.hid hb
    have OR := Lib.hid hr2
    have KD := Lib.hid (show Keeps none' W W.drew from (Keeps.refl none' W).drew)
    have t0 := bX.c0
    have t1 := bX.c1
    have t2 := bX.c2
    have t3 := bX.c3
    have n0 := hb.cell
    have a0 := hRI.doc.c0
    have a1 := hRI.doc.c1
    have a2 := hRI.doc.c2
    have a3 := hRI.doc.c3
    obtain ⟨VV, hVV⟩ : ∃ V : VT (sps 0 w.heap.size 3 0 h.b h.o 0 ls) (w.heap.size + 1) w8, V = ⟨X, hv, hmem⟩ := ⟨_, rfl⟩
    rw [← hVV]
    have EV := Lib.hid (show (valsT (pre ++ [VV])).map (fun X => X.l.dat.id) = ids ++ [X.l.dat.id] from by rw [hVV, hids]; simp [valsT])
    clear hVV hRI hkp hrr hc hlay hhas hids hlen hn hb hr2 hdep hRt hkids hrange bX hlt hmem hn4
    gi_wp2
    gi_region_with_o (first
      | (refine ⟨trivial, rfl, ?_⟩; gi_at_call 34; refine (CallsIn.inRound l (callsIn_wide.2 (LA.out _ KD.out))).mono ?_; rintro e wa ⟨rfl, hka⟩; have KA := Lib.hid (KD.out.next hka); clear hka; have a0 := (RW.out.later KA.out).doc.c0; have a1 := (RW.out.later KA.out).doc.c1; have a2 := (RW.out.later KA.out).doc.c2; have a3 := (RW.out.later KA.out).doc.c3)
      | (refine ⟨trivial, rfl, ?_⟩; gi_at_call 43; refine (CallsIn.inRound l (callsIn_wide.2 (HB.out _ KA.out))).mono ?_; rintro e wb ⟨rfl, hkb⟩; have KB := Lib.hid (KA.out.next hkb); clear hkb))
    all_goals
      gi_wp2
      have KE := Lib.hid (show Keeps none' W wb.drew from KB.out.drew)
      have RWb := Lib.hid (RW.out.later KB.out)
      have BBb := Lib.hid (box_later BB.out KB.out)
      have BXb := Lib.hid (BX.out.later KB.out)
      clear t0 t1 t2 t3 n0 a0 a1 a2 a3 d1 d2 d3 d4 d5 d6
      have t0 := BXb.out.c0
      have t1 := BXb.out.c1
      have t2 := BXb.out.c2
      have t3 := BXb.out.c3
      have n0 := BBb.out.cell
      gi_region_with_o (refine ⟨trivial, rfl, ?_⟩; gi_at_call 34; refine (CallsIn.inRound l (callsIn_wide.2 (LA.out _ KE.out))).mono ?_; rintro e wc ⟨rfl, hkc⟩; have KC := Lib.hid (KE.out.next hkc); clear hkc; have n1 := (box_later BB.out KC.out).cell; have n2 := (box_later BB.out (KC.out.alloc (.cells #[.int .i64 X.l.dat.id] 3))).cell; have i1 := KC.out.cell HC.out; obtain ⟨aa', cap', w5, hrun, h5c, h5f, hRI5, hKO5, hKP5⟩ := push_row (RW.out.later KC.out) NX.out.1 Z8.out (box_later BB.out KC.out) (owns_later OR.out KC.out) (by have := NX.out.2.1; omega) X.l.dat.id; have RI5 := Lib.hid hRI5; have KO5 := Lib.hid hKO5; have KP5 := Lib.hid hKP5; clear hRI5 hKO5 hKP5)
      all_goals
        gi_wp2
        refine ⟨(from_keeps KC.out).trans (KO5.out.from _), (KpS.keeps KC.out).trans KP5.out, ?_, (KP.out.trans (KpS.keeps KC.out)).trans KP5.out⟩
        rw [EV.out]
        exact RI5.out
  case done =>
    rintro Dd xs W hD hS ⟨hRI, hkp⟩ hK
    obtain ⟨ids, hids⟩ : ∃ ids, ids = (valsT xs).map (fun X => X.l.dat.id) := ⟨_, rfl⟩
    rw [← hids] at hRI
    have hnd : ids.Nodup := by
      rw [hids, hS, ids_sps _ ls (Nat.le_refl _)]
      exact II.out.good.nodup
    have hlen : ids.length ≤ 4096 := by
      have := CN.out
      rw [hids, hS, List.length_map, sps_length]
      exact this
    obtain ⟨n, hn⟩ : ∃ n, ids.length = n := ⟨_, rfl⟩
    obtain ⟨aa, cap, hb, hr2⟩ := hRI.row
    rw [hn] at hb hr2
    have DF := Lib.hid (diff_any w8.heap.size n _ ids W hr2 hnd (by omega))
    have n0 := hb.cell
    have RW := Lib.hid hRI
    have OR := Lib.hid hr2
    have HK := Lib.hid (And.intro hD hK)
    clear hRI hkp hS hids hnd hlen hn hb hr2 hD hK
    gi_wp2_with ((refine ⟨trivial, ?_⟩); gi_at_call 44; refine (callsIn_wide.2 DF.out).mono ?_; rintro e w9 ⟨rfl, hg9⟩; have r9 : Boxed w9 (w.heap.size + 1) 4 (.bool false) := RW.out.res.kept hg9 (RW.out.res.not_row (by decide) OR.out); have r9c := r9.cell; have r9f := r9.frozen; have RB := Lib.hid r9; have G9 := Lib.hid hg9; clear r9 hg9)
    have hlt := lt_of_block HK.out.2
    have Z := Z8.out
    have hrow : ∀ k, (Value.slice aa n cap).ownBlock = some k → w8.heap.size ≤ k ∧ k ≠ Dd := by
      intro k e
      rcases OR.out.2 with ⟨e2, _⟩ | ⟨g', cap2, cur, e2, hge, hgb, _⟩
      · rw [e2] at e; cases e
      · rw [e2] at e
        cases e
        refine ⟨hge, fun e3 => ?_⟩
        have h1 := HK.out.2
        rw [← e3, hgb] at h1
        cases h1
    have hd9 : w9.heap[Dd]? = some (.deferred (some [])) := (G9.out.block Dd hlt (fun e => (hrow Dd e.symm).2 rfl)).trans HK.out.2
    have hK2 : (w9.setCell ⟨w.heap.size + 1, 0, none⟩ (.bool true)).heap[Dd]? = some (.deferred (some [])) := (Below.heap_setCell _ _ _ _ (fun e => by have := HK.out.1; first | (have e' : Dd = w.heap.size + 1 := e; omega) | (have e' : w.heap.size + 1 = Dd := e; omega))).trans hd9
    refine ⟨by simp, .inl ⟨_, _, rfl, run_takeDeferred hK2, ?_⟩⟩
    refine ⟨_, results_bool rfl _ _ (w.heap.size + 1) true rfl ?_, rfl, ?_⟩
    · exact (RB.out.set (.bool true)).kept (grownBy_putObj' _ Dd (.deferred none)) (fun e => by have := HK.out.1; simp at e; omega)
    · exact ((RW.out.keeps.grown G9.out (fun k hk e => by have := (hrow k e).1; omega)).setCell (fun e => by have e' : w.heap.size + 1 < w.heap.size := e; omega) _).grown (grownBy_putObj' _ Dd (.deferred none)) (fun q hq e => by cases e; have := HK.out.1; omega)
  case stop => exact fun _ _ _ _ _ _ h => h.elim
end Go.Proofs.YtfcpbpfemmdklaaGreat.Tr

/- Equality of rows. (printed by genZN.py) -/
namespace Go.Proofs.YtfcpbpfemmdklaaGreat.Tr
open Go.RowKit Go.Lib
set_option linter.unusedSimpArgs false
set_option linter.unusedVariables false

end Go.Proofs.YtfcpbpfemmdklaaGreat.Tr

/- Layers and documents compared. (printed by genZO.py) -/
namespace Go.Proofs.YtfcpbpfemmdklaaGreat.Tr
open Go.RowKit Go.Lib
set_option linter.unusedSimpArgs false
set_option linter.unusedVariables false

def mapB (d e : Dat) : Bool := d.ma == e.ma && d.mb == e.mb && d.mc == e.mc && d.md == e.md && d.me == e.me && d.mf == e.mf
/-- The same picture, seen in the same way? -/
def sightB (d e : Dat) : Bool := decide (d.w = e.w) && (decide (d.h = e.h) && (mapB d e && (decide (d.smooth = e.smooth) && decide (d.p = e.p))))
/-- Alike, but for the kids? -/
def datB (d e : Dat) : Bool := decide (d.id = e.id) && (decide (d.kind = e.kind) && (decide (d.hid = e.hid) && (decide (d.op = e.op) && (decide (d.mode = e.mode) && (sightB d e && (decide (d.mask = e.mask) && (decide (d.table = e.table) && decide (d.pars = e.pars))))))))
def sameP : List Lay → List Lay → Bool
  | [], [] => true
  | .mk d ks :: ls, .mk e js :: ms => (datB d e && sameP ks js) && sameP ls ms
  | _, _ => false
theorem mapB_true {d e : Dat} : mapB d e = true ↔ d.ma = e.ma ∧ d.mb = e.mb ∧ d.mc = e.mc ∧ d.md = e.md ∧ d.me = e.me ∧ d.mf = e.mf := by simp [mapB, and_assoc]
theorem datB_true {d e : Dat} : datB d e = true ↔ d = e := by
  constructor
  · intro h
    simp only [datB, sightB, Bool.and_eq_true, decide_eq_true_eq, mapB_true] at h
    obtain ⟨h1, h2, h3, h4, h5, ⟨g1, g2, ⟨m1, m2, m3, m4, m5, m6⟩, g3, g4⟩, h6, h7, h8⟩ := h
    cases d; cases e
    simp only at h1 h2 h3 h4 h5 h6 h7 h8 g1 g2 g3 g4 m1 m2 m3 m4 m5 m6
    subst h1 h2 h3 h4 h5 h6 h7 h8 g1 g2 g3 g4 m1 m2 m3 m4 m5 m6
    rfl
  · rintro rfl
    simp [datB, sightB, mapB]
theorem sameP_fuel : ∀ (n : Nat) (ls : List Lay), SizeOf.sizeOf ls ≤ n → ∀ ms : List Lay, sameP ls ms = true ↔ ls = ms
  | 0, ls, h, ms => by cases ls <;> simp at h
  | n + 1, [], h, [] => by simp [sameP]
  | n + 1, [], h, m :: ms => by simp [sameP]
  | n + 1, .mk d ks :: ls, h, [] => by simp [sameP]
  | n + 1, .mk d ks :: ls, h, .mk e js :: ms => by
    have h1 : SizeOf.sizeOf ks ≤ n := by simp only [List.cons.sizeOf_spec, Lay.mk.sizeOf_spec] at h; omega
    have h2 : SizeOf.sizeOf ls ≤ n := by simp only [List.cons.sizeOf_spec, Lay.mk.sizeOf_spec] at h; omega
    rw [sameP, Bool.and_eq_true, Bool.and_eq_true, datB_true, sameP_fuel n ks h1 js, sameP_fuel n ls h2 ms]
    simp
/-- Alike is equal. -/
theorem sameP_true {ls ms : List Lay} : sameP ls ms = true ↔ ls = ms := sameP_fuel _ ls (Nat.le_refl _) ms
theorem eq33 (a b c d f g a' b' c' d' f' g' : Int) (w : World) : (Op.equalIn 10000 36 (.agg #[.int .i64 a, .int .i64 b, .int .i64 c, .int .i64 d, .int .i64 f, .int .i64 g]) (.agg #[.int .i64 a', .int .i64 b', .int .i64 c', .int .i64 d', .int .i64 f', .int .i64 g'])).run Tryz.prog w = .ok (a == a' && b == b' && c == c' && d == d' && f == f' && g == g') w := by
  have u3 := Tryz.underlying3
  have a3 := Tryz.isAgg3
  have z3 := Tryz.sizeOf3
  rw [show (10000 : Nat) = 9999 + 1 from rfl, Op.equalIn]
  simp only [Sem.run_bind, run_underlying Tryz.underlying36, Result.andThen_ok]
  simp only [Std.Legacy.Range.forIn_eq_forIn_range', Std.Legacy.Range.size, Nat.sub_zero, Nat.add_sub_cancel, Nat.div_one, List.range'_succ, List.range'_zero, List.forIn_cons, List.forIn_nil]
  go_simp
  by_cases h1 : a = a'
  · by_cases h2 : b = b'
    · by_cases h3 : c = c'
      · by_cases h4 : d = d'
        · by_cases h5 : f = f'
          · by_cases h6 : g = g' <;> simp [h1, h2, h3, h4, h5, h6]
          · simp [h1, h2, h3, h4, h5]
        · simp [h1, h2, h3, h4]
      · simp [h1, h2, h3]
    · simp [h1, h2]
  · simp [h1]
/-- Two layers in blocks of their own. -/
def Lx (w : World) (A : Nat) (X : Array Value) : Prop := w.heap[A]? = some (.cells X 51 (0, 0))
end Go.Proofs.YtfcpbpfemmdklaaGreat.Tr

/- Lists of layers compared, documents. -/
namespace Go.Proofs.YtfcpbpfemmdklaaGreat.Tr
open Go.RowKit Go.Lib
set_option linter.unusedSimpArgs false
set_option linter.unusedVariables false

theorem er_at {ls : List Loc} {i : Nat} {l : Loc} (h : ls[i]? = some l) : (er ls)[i]? = (er [l])[0]? := by
  have e : ls = ls.take i ++ l :: ls.drop (i + 1) := by
    have hi := (List.getElem?_eq_some_iff.1 h).1
    have hg : ls[i] = l := (List.getElem?_eq_some_iff.1 h).2
    rw [← hg, ← List.drop_eq_getElem_cons hi, List.take_append_drop]
  have hl : (er (ls.take i)).length = i := by rw [er_length, List.length_take]; have := (List.getElem?_eq_some_iff.1 h).1; omega
  rw [e, er_append, List.getElem?_append_right (by omega), hl, Nat.sub_self, er_cons, er_cons]
  rfl
theorem er_take_more {ls : List Loc} {i : Nat} {l : Loc} (h : ls[i]? = some l) : er (ls.take (i + 1)) = er (ls.take i) ++ er [l] := by rw [take_more h, er_append]
theorem rows_at {w wr : World} {b o n c i : Nat} {ls : List Loc} {l : Loc} (R : ReadR w 51 19 ⟨some ⟨b, o, none⟩, n, c⟩ (flat ls)) (k : Keeps none' w wr) (hl : ls[i]? = some l) : wr.rangeAt b (o + i * 19) l.cells := fun j u hj => by
  have := k.cell ((R.1.at' _ rfl).2.2 (i * 19 + j) u (flat_at ls i l hl j u hj))
  rw [← Nat.add_assoc] at this
  exact this
def Z48v : Obj := .cells #[.int .i64 0, .int .i64 0, .bool false, .int .i64 0, .int .i64 0, .int .i64 0, .int .i64 0, .slice none 0 0, .slice none 0 0, .int .i64 0, .int .i64 0, .int .i64 0, .int .i64 0, .int .i64 0, .int .i64 0, .bool false, .int .i64 0, .slice none 0 0, .slice none 0 0] 51
/-- Documents compared. -/
def docB (x y z : Int) (ls : List Lay) (x' y' z' : Int) (ms : List Lay) : Bool := decide (x = x') && (decide (y = y') && (decide (z = z') && sameP ls ms))
end Go.Proofs.YtfcpbpfemmdklaaGreat.Tr

/- Find, the document's New, a play's beginning. -/
namespace Go.Proofs.YtfcpbpfemmdklaaGreat.Tr
open Go.RowKit Go.Lib
set_option linter.unusedSimpArgs false
set_option linter.unusedVariables false

def zero48 : Array Value := #[.int .i64 0, .int .i64 0, .bool false, .int .i64 0, .int .i64 0, .int .i64 0, .int .i64 0, .slice none 0 0, .slice none 0 0, .int .i64 0, .int .i64 0, .int .i64 0, .int .i64 0, .int .i64 0, .int .i64 0, .bool false, .int .i64 0, .slice none 0 0, .slice none 0 0]
/-- What Find tells. -/
def FoundL (w : World) (r : Option At') (en : Ending) (w' : World) : Prop :=
  match r with
  | none => en = .returned (.tuple #[.agg zero48, .bool false]) ∧ Keeps none' w w'
  | some r => ∃ l' : Loc, en = .returned (.tuple #[.agg l'.cells.toArray, .bool true]) ∧ er [l'] = [.mk r.d r.kids] ∧ Own w.heap.size w' [l'] ∧ (blks [l']).Nodup ∧ Keeps none' w w'
theorem zero48_one : zero48.all (·.oneCell') = true := by kernel_rfl
set_option maxRecDepth 100000 in
set_option maxHeartbeats 1600000 in
theorem find12 (x y z : Int) (h : Hd) (ls : List Loc) (id : Int) (w : World) (D : DocV w h ls) (hc : cnt ls ≤ 1099511627776) :
    Calls Tryz.prog 12 #[docV x y z h, .int .i64 id] w fun en w' => FoundL w (fnd id (er ls)) en w' := by
  unfold docV
  have FD := find_doc id w.heap.size h ls
  have K0 := Lib.hid (((Keeps.refl none' w).alloc (.cells #[.int .i64 x, .int .i64 y, .int .i64 z, .slice h.a h.n h.c] 26)).alloc (.cells zero48 51))
  have C0 := Lib.hid ((Dc.new w x y z h).later ((Keeps.refl none' _).alloc (.cells zero48 51)))
  have F0 := Lib.hid (heap_alloc_new (w.alloc (.cells #[.int .i64 x, .int .i64 y, .int .i64 z, .slice h.a h.n h.c] 26)) (.cells zero48 51))
  have hs1 : (w.alloc (.cells #[.int .i64 x, .int .i64 y, .int .i64 z, .slice h.a h.n h.c] 26)).heap.size = w.heap.size + 1 := by simp
  rw [hs1] at F0
  clear hs1
  have HD := Lib.hid D
  have HC := Lib.hid hc
  clear D hc
  rcases FD with ⟨a, b⟩ | ⟨C, pre, l, post, h', a1, a2, a3, a4⟩
  · rw [b]
    have HF := Lib.hid a
    clear a b
    go_enter Tryz.func12, Tryz.ntmps12
    go_upto_region 1 with (fail)
    change Code.wp _ _ _ _ ((w.alloc (.cells #[.int .i64 x, .int .i64 y, .int .i64 z, .slice h.a h.n h.c] 26)).alloc (.cells zero48 51))
    generalize (w.alloc (.cells #[.int .i64 x, .int .i64 y, .int .i64 z, .slice h.a h.n h.c] 26)).alloc (.cells zero48 51) = w1 at *
    obtain ⟨F, hF⟩ : ∃ F, F = w.heap.size + 1 := ⟨_, rfl⟩
    rw [← hF] at F0
    rw [← hF]
    have FL := Lib.hid (show w.heap.size ≤ F from by omega)
    clear hF
    go_upto_region 2 with (first
      | ((with_reducible refine (root_any w.heap.size _).mono ?_); rintro e w2 ⟨rfl, hk2⟩; have K2 := Lib.hid (K0.out.next hk2); have C2 := Lib.hid (C0.out.later hk2); have F2 := Lib.hid ((hk2.later F (lt_of_block F0.out)).trans F0.out); clear hk2)
      | (refine (find_any 0 w.heap.size 3 0 h ls id w2 ((HD.out.later K2.out).home C2.out) (by rw [Nat.zero_add]; exact HC.out)).mono ?_; rintro e w3 ⟨hf3, hk3⟩; have hf4 := found_eq hf3; rw [HF.out] at hf4; simp only [foundV] at hf4; subst hf4; have K3 := Lib.hid (K2.out.next hk3); have F3 := Lib.hid ((hk3.later F (lt_of_block F2.out)).trans F2.out); clear hk3 hf3))
    have K4 := Lib.hid (K3.out.alloc (.cells #[.int .i64 0, .pointer none, .int .i64 0, .int .i64 0] 86))
    have F4 := Lib.hid ((((Keeps.refl none' w3).alloc (.cells #[.int .i64 0, .pointer none, .int .i64 0, .int .i64 0] 86)).later F (lt_of_block F3.out)).trans F3.out)
    clear K0 C0 F0 K2 C2 F2 K3 F3
    generalize w3.alloc (.cells #[.int .i64 0, .pointer none, .int .i64 0, .int .i64 0] 86) = w4 at *
    go_wp2_with (refine wpList_store_row rfl 51 _ _ rfl F zero48 rfl rfl 51 _ F4.out (by exact size48) (by rfl) zero48_one ?_)
    refine bodyPost_ret (results_cell_row2 rfl _ _ F 51 zero48 (0, 0) _ rfl (setRow_heap w4 F _ zero48 _ _ F4.out) Tryz.underlying51 rfl (by exact size48)) rfl ?_
    exact ⟨rfl, K4.out.setRow FL.out zero48⟩
  · rw [a2]
    have HF := Lib.hid a1
    have HE := Lib.hid (show er [l] = [.mk l.dat (er l.kids)] from by rw [er_cons, er])
    obtain ⟨X, hX⟩ : ∃ X, X = sptOf w.heap.size C h' pre.length l := ⟨_, rfl⟩
    have xl : X.l = l := by rw [hX]; rfl
    rw [← hX] at HF
    clear hX a1 a2 a3 a4
    subst xl
    have hv := sps_valid ((HD.out.later K0.out).home C0.out).low (by rw [Nat.zero_add]; exact HC.out) X (List.mem_of_find?_eq_some HF.out)
    obtain ⟨h2, ls2, off, v1, v2, v3, v4, v5⟩ := hv
    obtain ⟨a2, n2, c2⟩ := h2
    simp only at v3
    subst v3
    have V1 := Lib.hid v1.home
    have V2 := Lib.hid v2
    have V4 := Lib.hid v4
    clear v1 v2 v4 v5
    have LF := Lib.hid (show ∀ l : Loc, (Tryz.prog.info? 51).map (·.size) = some l.cells.toArray.size ∧ 19 = l.cells.toArray.size ∧ l.cells.toArray.all (·.oneCell') = true from fun l => by
      have e19 : l.cells.toArray.size = 19 := by rw [List.size_toArray, Loc.cells_length]
      refine ⟨by rw [e19]; exact size48, e19.symm, ?_⟩
      rw [Array.all_eq_true_iff_forall_mem]
      intro u hu
      exact l.cells_one u (by simpa using hu))
    have RL := Lib.hid (show (Tryz.prog.info? 51).map (·.size) = some X.l.cells.length from by rw [Loc.cells_length]; exact size48)
    go_enter Tryz.func12, Tryz.ntmps12
    go_upto_region 1 with (fail)
    change Code.wp _ _ _ _ ((w.alloc (.cells #[.int .i64 x, .int .i64 y, .int .i64 z, .slice h.a h.n h.c] 26)).alloc (.cells zero48 51))
    generalize (w.alloc (.cells #[.int .i64 x, .int .i64 y, .int .i64 z, .slice h.a h.n h.c] 26)).alloc (.cells zero48 51) = w1 at *
    obtain ⟨F, hF⟩ : ∃ F, F = w.heap.size + 1 := ⟨_, rfl⟩
    rw [← hF] at F0
    rw [← hF]
    have FL := Lib.hid (show w.heap.size ≤ F from by omega)
    clear hF
    go_upto_region 2 with (first
      | ((with_reducible refine (root_any w.heap.size _).mono ?_); rintro e w2 ⟨rfl, hk2⟩; have K12 := Lib.hid hk2; have K2 := Lib.hid (K0.out.next hk2); have C2 := Lib.hid (C0.out.later hk2); have F2 := Lib.hid ((hk2.later F (lt_of_block F0.out)).trans F0.out); clear hk2)
      | (refine (find_any 0 w.heap.size 3 0 h ls id w2 ((HD.out.later K2.out).home C2.out) (by rw [Nat.zero_add]; exact HC.out)).mono ?_; rintro e w3 ⟨hf3, hk3⟩; have hf4 := found_eq hf3; rw [HF.out] at hf4; simp only [foundV] at hf4; subst hf4; have K13 := Lib.hid (K12.out.next hk3); have K3 := Lib.hid (K2.out.next hk3); have F3 := Lib.hid ((hk3.later F (lt_of_block F2.out)).trans F2.out); clear hk3 hf3))
    have S4 := Lib.hid (Sp.new w3 X.hid X.kb X.ko (X.dep : Int) (X.i : Int))
    have K4 := Lib.hid (K3.out.alloc (.cells #[.int .i64 X.hid, .pointer (some ⟨X.kb, X.ko, none⟩), .int .i64 (X.dep : Int), .int .i64 (X.i : Int)] 86))
    have K14 := Lib.hid (K13.out.alloc (.cells #[.int .i64 X.hid, .pointer (some ⟨X.kb, X.ko, none⟩), .int .i64 (X.dep : Int), .int .i64 (X.i : Int)] 86))
    have F4 := Lib.hid ((((Keeps.refl none' w3).alloc (.cells #[.int .i64 X.hid, .pointer (some ⟨X.kb, X.ko, none⟩), .int .i64 (X.dep : Int), .int .i64 (X.i : Int)] 86)).later F (lt_of_block F3.out)).trans F3.out)
    obtain ⟨S, hS⟩ : ∃ S, S = w3.heap.size := ⟨_, rfl⟩
    rw [← hS] at S4
    rw [← hS]
    clear hS K0 C0 F0 K12 K2 C2 F2 K13 K3 F3
    generalize w3.alloc (.cells #[.int .i64 X.hid, .pointer (some ⟨X.kb, X.ko, none⟩), .int .i64 (X.dep : Int), .int .i64 (X.i : Int)] 86) = w4 at *
    have s0 := S4.out.c0
    have s1 := S4.out.c1
    have s2 := S4.out.c2
    have s3 := S4.out.c3
    have LA := Lib.hid (layer_any X.hid X.kb X.ko (X.dep : Int) _ ls2 X.i X.l X.b off w4 (V1.out.later K14.out) rfl V2.out)
    obtain ⟨O8, hO8⟩ : ∃ O8, O8 = off + X.i * 19 := ⟨_, rfl⟩
    rw [← hO8] at LA
    have RG := Lib.hid (show ∀ w', Keeps none' w4 w' → w'.rangeAt X.b O8 X.l.cells from fun w' k => by rw [hO8]; exact rows_at V1.out.row (K14.out.next k) V2.out)
    have CP := Lib.hid (show ∀ w', Keeps none' w4 w' → Rep w' [X.l] from fun w' k => (All.one V1.out.rep V2.out).imp fun _ _ _ _ _ o => o.keep (K14.out.next k) (fun _ _ h => h))
    have CY := Lib.hid (show ∀ w', Keeps none' w4 w' → Calls Tryz.prog 35 #[.agg X.l.cells.toArray] w' (fun e w'' => ∃ l', e = .returned (.agg l'.cells.toArray) ∧ CopyOne w' X.l l' w'') from fun w' k => copied_any X.l w' (CP.out w' k))
    clear hO8
    go_wp2_with (first
      | ((with_reducible refine LA.out.mono ?_); rintro e w5 ⟨rfl, hk⟩; have K5 := Lib.hid hk; clear hk)
      | (refine wpList_load_mid rfl 51 _ rfl X.b O8 rfl X.l.cells _ (RG.out w5 K5.out) Tryz.underlying51 rfl RL.out ?_)
      | ((with_reducible refine (CY.out w5 K5.out).mono ?_); rintro e w6 ⟨l', rfl, hcp⟩; have HCP := Lib.hid hcp; have F6 := Lib.hid (((K5.out.next hcp.keeps).later F (lt_of_block F4.out)).trans F4.out); clear hcp)
      | (refine wpList_store_row rfl 51 _ _ rfl F l'.cells.toArray rfl rfl 51 _ F6.out (LF.out l').1 (by exact (LF.out l').2.1) (LF.out l').2.2 ?_))
    refine bodyPost_ret (results_cell_row2 rfl _ _ F 51 l'.cells.toArray (0, 0) _ rfl (setRow_heap w6 F _ l'.cells.toArray _ _ F6.out) Tryz.underlying51 rfl (LF.out l').1) rfl ?_
    have kk : Keeps none' w w6 := (K4.out.next K5.out).next HCP.out.keeps
    refine ⟨l', rfl, by rw [HCP.out.same, HE.out], ?_, HCP.out.nodup, kk.setRow FL.out _⟩
    refine (HCP.out.own.keep (keeps_row w6 F _) (fun b hb e => ?_)).low (K4.out.next K5.out).size
    have e' : b = F := e
    have h1 := (HCP.out.own.range b hb).1
    have h2 := K5.out.size
    have h3 := lt_of_block F4.out
    omega
theorem sized20 (x y : Int) (w : World) (hx : 1 ≤ x ∧ x ≤ 24) (hy : 1 ≤ y ∧ y ≤ 24) : Calls Tryz.prog 25 #[.int .i64 x, .int .i64 y] w fun en w' => en = .returned (.bool true) ∧ w = w' := by
  have d1 : decide (x ≥ 1) = true := by simp; omega
  have d2 : decide (y ≥ 1) = true := by simp; omega
  have d3 : decide (x ≤ 32768) = true := by simp; omega
  have d4 : decide (y ≤ 32768) = true := by simp; omega
  have d7 : decide (1 ≤ x) = true := by simp; omega
  have d8 : decide (1 ≤ y) = true := by simp; omega
  have hm : x * y ≤ 576 := by
    have := Int.mul_le_mul hx.2 hy.2 (by omega) (by omega)
    omega
  have h0 : 0 ≤ x * y := Int.mul_nonneg (by omega) (by omega)
  obtain ⟨m, hm'⟩ : ∃ m, m = x * y := ⟨_, rfl⟩
  rw [← hm'] at hm h0
  have d5 : wrap64 (x * y) = m := by rw [← hm']; exact wrap64_id _ (by omega) (by omega)
  have d6 : decide (m ≤ 4194304) = true := by simp; omega
  clear hx hy hm h0 hm'
  go_enter Tryz.func25, Tryz.ntmps25
  go_wp2_with fail
  go_ret
  exact ⟨rfl, rfl⟩
def docR (x y z : Int) : Value := .agg #[.int .i64 x, .int .i64 y, .int .i64 z, .slice none 0 0]
set_option maxRecDepth 100000 in
set_option maxHeartbeats 800000 in
theorem new19 (x y : Int) (w : World) (hx : 1 ≤ x ∧ x ≤ 24) (hy : 1 ≤ y ∧ y ≤ 24) : Calls Tryz.prog 24 #[.int .i64 x, .int .i64 y] w fun en w' => en = .returned (.tuple #[docR x y 1, .int .i64 0]) ∧ Keeps none' w w' := by
  have CS := Lib.hid (fun w' => sized20 x y w' hx hy)
  have R0 := Lib.hid (heap_alloc_new w (.cells #[.int .i64 0, .int .i64 0, .int .i64 0, .slice none 0 0] 29))
  have K0 := Lib.hid ((Keeps.refl none' w).alloc (.cells #[.int .i64 0, .int .i64 0, .int .i64 0, .slice none 0 0] 29))
  obtain ⟨Z, hZ⟩ : ∃ Z, Z = w.heap.size := ⟨_, rfl⟩
  have ZS := Lib.hid hZ
  rw [← hZ] at R0
  obtain ⟨⟨r0, r1, r2, r3⟩, rf⟩ := four_cells R0.out
  have f0 := rf 0
  have f1 := rf 1
  have f2 := rf 2
  have f3 := rf 3
  clear rf hx hy
  go_enter Tryz.func24, Tryz.ntmps24
  go_upto_region 1 with (fail)
  rw [← hZ]
  clear hZ
  generalize w.alloc (.cells #[.int .i64 0, .int .i64 0, .int .i64 0, .slice none 0 0] 29) = w1 at *
  go_wp2_with ((with_reducible refine (CS.out w1).mono ?_); rintro e w2 ⟨rfl, hw⟩; subst hw)
  refine bodyPost_ret (results_cell_row2 rfl _ _ Z 29 _ (0, 0) _ rfl (four_set R0.out _ _ _ _) Tryz.underlying29 rfl (by kernel_rfl)) rfl ?_
  exact ⟨rfl, keeps_set4 K0.out (by rw [ZS.out]; exact Nat.le_refl _) _ _ _ _⟩
theorem area_small (x y : Int) (hx : 1 ≤ x ∧ x ≤ 24) (hy : 1 ≤ y ∧ y ≤ 24) : areaP x y = true := by
  have hm : x * y ≤ 576 := by
    have := Int.mul_le_mul hx.2 hy.2 (by omega) (by omega)
    omega
  simp only [areaP, sideP, Bool.and_eq_true, decide_eq_true_eq]
  exact ⟨⟨by omega, by omega⟩, ⟨by omega, by omega⟩, by omega⟩
theorem results_cells3 {P : Program} {fn : Func} {p q u : Tmp} {ty ty' : TypeId} (h : fn.results = #[.cell p ty, .cell q ty', .tmp u]) (tmps : Array Value) (w : World) (g g' : Nat) (t t' : TypeId) (cs cs' : Array Value) (fr fr' : Nat × Nat) (d d' : TypeDesc)
    (hp : tmps.getD p undef = .pointer (some ⟨g, 0, none⟩)) (hq : tmps.getD q undef = .pointer (some ⟨g', 0, none⟩)) (hg : w.heap[g]? = some (.cells cs t fr)) (hg' : w.heap[g']? = some (.cells cs' t' fr'))
    (hu : P.underlying ty = some d) (hd : (match d with | .struct _ | .array _ _ => true | _ => false) = true) (hi : (P.info? ty).map (·.size) = some cs.size)
    (hu' : P.underlying ty' = some d') (hd' : (match d' with | .struct _ | .array _ _ => true | _ => false) = true) (hi' : (P.info? ty').map (·.size) = some cs'.size) :
    (results fn tmps).run P w = .ok (.tuple #[.agg cs, .agg cs', tmps.getD u undef]) w := by
  have hp' : tmps[p]?.getD undef = .pointer (some ⟨g, 0, none⟩) := by simpa using hp
  have hq' : tmps[q]?.getD undef = .pointer (some ⟨g', 0, none⟩) := by simpa using hq
  simp [results, h, hp', hq', asAddr, run_loadVar_row w g t ty cs fr d hg hu hd hi, run_loadVar_row w g' t' ty' cs' fr' d' hg' hu' hd' hi']
set_option maxRecDepth 100000 in
set_option maxHeartbeats 1600000 in
theorem begun9 (x y : Int) (w : World) (hx : 1 ≤ x ∧ x ≤ 24) (hy : 1 ≤ y ∧ y ≤ 24) : Calls Tryz.prog 7 #[.int .i64 x, .int .i64 y] w fun en w' => en = .returned (.tuple #[docV x y 1 Hd.nil, docR x y 1, .bool true]) ∧ Keeps none' w w' := by
  have N1 := fun w' => new7 x y w'
  rw [area_small x y hx hy, if_pos rfl] at N1
  simp only [docV, Hd.nil] at N1
  have HN := Lib.hid N1
  have M1 := fun w' => new19 x y w' hx hy
  simp only [docR] at M1
  have HM := Lib.hid M1
  have d1 : decide (x ≤ 24) = true := by simp; omega
  have d2 : decide (y ≤ 24) = true := by simp; omega
  have hx1 := hx.1
  clear N1 M1 hx hy
  have A0 := Lib.hid ((show ((w.alloc (.cells #[.int .i64 0, .int .i64 0, .int .i64 0, .slice none 0 0] 26)).alloc (.cells #[.int .i64 0, .int .i64 0, .int .i64 0, .slice none 0 0] 29)).heap[w.heap.size]? = some (.cells #[.int .i64 0, .int .i64 0, .int .i64 0, .slice none 0 0] 26 (0, 0)) from (((Keeps.refl none' (w.alloc (.cells #[.int .i64 0, .int .i64 0, .int .i64 0, .slice none 0 0] 26))).alloc _).later _ (lt_of_block (heap_alloc_new _ _))).trans (heap_alloc_new _ _)))
  have B0 := Lib.hid (heap_alloc_new (w.alloc (.cells #[.int .i64 0, .int .i64 0, .int .i64 0, .slice none 0 0] 26)) (.cells #[.int .i64 0, .int .i64 0, .int .i64 0, .slice none 0 0] 29))
  have K0 := Lib.hid (((Keeps.refl none' w).alloc (.cells #[.int .i64 0, .int .i64 0, .int .i64 0, .slice none 0 0] 26)).alloc (.cells #[.int .i64 0, .int .i64 0, .int .i64 0, .slice none 0 0] 29))
  have hs1 : (w.alloc (.cells #[.int .i64 0, .int .i64 0, .int .i64 0, .slice none 0 0] 26)).heap.size = w.heap.size + 1 := by simp
  rw [hs1] at B0
  clear hs1
  obtain ⟨A, hA⟩ : ∃ A, A = w.heap.size := ⟨_, rfl⟩
  obtain ⟨B, hB⟩ : ∃ B, B = A + 1 := ⟨_, rfl⟩
  rw [← hA] at A0 B0
  rw [← hB] at B0
  have nab : A ≠ B := by omega
  have nba : B ≠ A := by omega
  have AB := Lib.hid (And.intro (show w.heap.size ≤ A from by omega) (show w.heap.size ≤ B from by omega))
  go_enter Tryz.func7, Tryz.ntmps7
  go_upto_region 1 with (fail)
  rw [← hA, ← hB]
  clear hA hB
  generalize (w.alloc (.cells #[.int .i64 0, .int .i64 0, .int .i64 0, .slice none 0 0] 26)).alloc (.cells #[.int .i64 0, .int .i64 0, .int .i64 0, .slice none 0 0] 29) = w1 at *
  go_upto_region 2 with ((with_reducible refine (HN.out w1).mono ?_); rintro en w2 ⟨rfl, hk⟩; have K2 := Lib.hid hk; clear hk)
  have C3 := Lib.hid (heap_alloc_new w2 (.cells #[.int .i64 x, .int .i64 y, .int .i64 1, .slice none 0 0] 26))
  have K3 := Lib.hid (K2.out.alloc (.cells #[.int .i64 x, .int .i64 y, .int .i64 1, .slice none 0 0] 26))
  obtain ⟨C, hC⟩ : ∃ C, C = w2.heap.size := ⟨_, rfl⟩
  rw [← hC] at C3
  rw [← hC]
  clear hC K2
  generalize w2.alloc (.cells #[.int .i64 x, .int .i64 y, .int .i64 1, .slice none 0 0] 26) = w3 at *
  go_upto_region 3 with ((with_reducible refine (HM.out w3).mono ?_); rintro en w4 ⟨rfl, hk⟩; have K4 := Lib.hid hk; clear hk)
  have D5 := Lib.hid (heap_alloc_new w4 (.cells #[.int .i64 x, .int .i64 y, .int .i64 1, .slice none 0 0] 29))
  have k5 := K4.out.alloc (.cells #[.int .i64 x, .int .i64 y, .int .i64 1, .slice none 0 0] 29)
  have C5 := Lib.hid ((k5.later C (lt_of_block C3.out)).trans C3.out)
  have A5 := Lib.hid (((K3.out.next k5).later A (lt_of_block A0.out)).trans A0.out)
  have B5 := Lib.hid (((K3.out.next k5).later B (lt_of_block B0.out)).trans B0.out)
  have K5 := Lib.hid (K0.out.next (K3.out.next k5))
  obtain ⟨D, hD⟩ : ∃ D, D = w4.heap.size := ⟨_, rfl⟩
  rw [← hD] at D5
  rw [← hD]
  clear hD k5 K4 K3 C3 A0 B0 K0
  generalize w4.alloc (.cells #[.int .i64 x, .int .i64 y, .int .i64 1, .slice none 0 0] 29) = w5 at *
  obtain ⟨⟨a0, a1, a2, a3⟩, af⟩ := four_cells A5.out
  obtain ⟨⟨b0, b1, b2, b3⟩, bf⟩ := four_cells B5.out
  obtain ⟨⟨c0, c1, c2, c3⟩, cf⟩ := four_cells C5.out
  obtain ⟨⟨e0, e1, e2, e3⟩, ef⟩ := four_cells D5.out
  have nac : A ≠ C := by
    rintro rfl
    have h1 := A5.out.symm.trans C5.out
    simp at h1
    try omega
  have nbc : B ≠ C := by
    rintro rfl
    have := B5.out.symm.trans C5.out
    simp at this
  have nad : A ≠ D := by
    rintro rfl
    have := A5.out.symm.trans D5.out
    simp at this
  have nbd : B ≠ D := by
    rintro rfl
    have h1 := B5.out.symm.trans D5.out
    simp at h1
    try omega
  have g0 := af 0
  have g1 := af 1
  have g2 := af 2
  have g3 := af 3
  have h0 := bf 0
  have h1 := bf 1
  have h2 := bf 2
  have h3 := bf 3
  clear af bf cf ef
  clear hx1
  go_region
  all_goals go_wp2_with fail
  have hA := four_set A5.out (.int .i64 x) (.int .i64 y) (.int .i64 1) (.slice none 0 0)
  have q1 := keeps_at4 w5 A (.int .i64 x) (.int .i64 y) (.int .i64 1) (.slice none 0 0)
  have k1 := keeps_set4 (Z := A) K5.out AB.out.1 (.int .i64 x) (.int .i64 y) (.int .i64 1) (.slice none 0 0)
  have hB1 := (q1.block B (lt_of_block B5.out) (fun e => nba e)).trans B5.out
  have hB := four_set hB1 (.int .i64 x) (.int .i64 y) (.int .i64 1) (.slice none 0 0)
  have q2 := keeps_at4 ((((w5.setCell ⟨A, 0, none⟩ (.int .i64 x)).setCell ⟨A, 1, none⟩ (.int .i64 y)).setCell ⟨A, 2, none⟩ (.int .i64 1)).setCell ⟨A, 3, none⟩ (.slice none 0 0)) B (.int .i64 x) (.int .i64 y) (.int .i64 1) (.slice none 0 0)
  have k2 := keeps_set4 (Z := B) k1 AB.out.2 (.int .i64 x) (.int .i64 y) (.int .i64 1) (.slice none 0 0)
  have hA2 := (q2.block A (lt_of_block hA) (fun e => nab e)).trans hA
  clear q1 k1 hB1 q2 hA A5 B5 C5 D5 K5 a0 a1 a2 a3 b0 b1 b2 b3 c0 c1 c2 c3 e0 e1 e2 e3 g0 g1 g2 g3 h0 h1 h2 h3 nab nba nac nbc nad nbd
  generalize ((((((((w5.setCell ⟨A, 0, none⟩ (.int .i64 x)).setCell ⟨A, 1, none⟩ (.int .i64 y)).setCell ⟨A, 2, none⟩ (.int .i64 1)).setCell ⟨A, 3, none⟩ (.slice none 0 0)).setCell ⟨B, 0, none⟩ (.int .i64 x)).setCell ⟨B, 1, none⟩ (.int .i64 y)).setCell ⟨B, 2, none⟩ (.int .i64 1)).setCell ⟨B, 3, none⟩ (.slice none 0 0)) = W2 at hB hA2 k2 ⊢
  have gA : W2.drew.heap[A]? = some (.cells #[.int .i64 x, .int .i64 y, .int .i64 1, .slice none 0 0] 26 (0, 0)) := hA2
  have gB : W2.drew.heap[B]? = some (.cells #[.int .i64 x, .int .i64 y, .int .i64 1, .slice none 0 0] 29 (0, 0)) := hB
  have gk := k2.drew
  clear hA2 hB k2
  generalize W2.drew = W3 at *
  refine bodyPost_ret (results_cells3 rfl _ _ A B 26 29 _ _ (0, 0) (0, 0) _ _ rfl rfl gA gB Tryz.underlying26 rfl (by kernel_rfl) Tryz.underlying29 rfl (by kernel_rfl)) rfl ?_
  exact ⟨rfl, gk⟩
end Go.Proofs.YtfcpbpfemmdklaaGreat.Tr

/- Slices of whole numbers that came in; TreePaints over them. -/
namespace Go.Proofs.YtfcpbpfemmdklaaGreat.Tr
open Go.RowKit Go.Lib
set_option linter.unusedSimpArgs false
set_option linter.unusedVariables false

/-- A slice as it comes in. -/
def IsRow (w : World) (a : Option Addr) (len cap : Nat) (zs : List Int) : Prop :=
  (a = none ∧ len = 0 ∧ cap = 0 ∧ zs = []) ∨
  ∃ x, a = some x ∧ len ≤ cap ∧ cap ≤ maxLen ∧ zs.length = cap ∧ (∀ i, i < zs.length → w.cell? (x.add i) = some (.int .i64 (zs.getD i 0))) ∧ x.spot = none ∧ x.block < w.heap.size
theorem cells_of_row {w : World} {a : Option Addr} {len cap : Nat} {zs : List Int} (h : IsRow w a len cap zs) : Cells 1 w ⟨a, len, cap⟩ (ints (zs.take len)) := by
  rcases h with ⟨rfl, rfl, rfl, rfl⟩ | ⟨x, rfl, hl, hm, hz, hcell, hx⟩
  · exact ⟨by simp [ints], Nat.le_refl _, fun _ => ⟨rfl, rfl⟩, ints_one _, fun x hx => (by cases hx)⟩
  · refine ⟨by simp [ints]; omega, hl, fun e => (by cases e), ints_one _, fun y hy => ?_⟩
    cases hy
    have hsp := hx
    refine ⟨hsp.1, hsp.2, fun j u hj => ?_⟩
    obtain ⟨b, off, sp⟩ := x
    obtain ⟨h1, h2⟩ := hsp
    simp only at h1
    subst h1
    unfold ints at hj
    rw [List.getElem?_map, List.getElem?_take] at hj
    split at hj
    · have hj2 : j < zs.length := by omega
      have hc := hcell j hj2
      rw [add_spot, List.getD_eq_getElem?_getD] at hc
      rw [List.getElem?_eq_getElem hj2] at hj hc
      simp at hj hc
      rw [← hj]
      exact hc
    · cases hj
/-- Where a slice that came in lies. -/
theorem okWide_lies {P : Program} {w : World} {base : Nat} {t e : TypeId} {a : Option Addr} {len cap : Nat} (ht : P.underlying t = some (.slice e)) (h : Value.okWide P w .any base t (.slice a len cap)) : ∀ x, a = some x → x.spot = none ∧ x.block < w.heap.size := by
  intro x hx
  subst hx
  simp only [Value.okWide, ht, Cell.okWide, Cell.ok] at h
  obtain ⟨-, -, -, h2, row, cells, h3, -⟩ := h
  refine ⟨h2, ?_⟩
  unfold World.shape? at h3
  by_cases hb : x.block < w.heap.size
  · exact hb
  · rw [Array.getElem?_eq_none (by omega)] at h3
    simp at h3
theorem ed_size (e : PEd) (p s q : Hd) : (edCells e p s q).toArray.size = 19 := by simp [edCells]
theorem ed_one (e : PEd) (p s q : Hd) : (edCells e p s q).toArray.all (·.oneCell') = true := by
  rw [Array.all_eq_true_iff_forall_mem]
  intro u hu
  simp [edCells] at hu
  rcases hu with h | h | h | h | h | h | h | h | h | h | h | h | h | h | h | h | h | h | h <;> (subst h; rfl)
theorem ed_row (e : PEd) (p s q : Hd) : (Tryz.prog.info? 38).map (·.size) = some (edCells e p s q).toArray.size ∧ 19 = (edCells e p s q).toArray.size ∧ (edCells e p s q).toArray.all (·.oneCell') = true := by
  rw [ed_size]
  exact ⟨size35, rfl, ed_one e p s q⟩
end Go.Proofs.YtfcpbpfemmdklaaGreat.Tr
