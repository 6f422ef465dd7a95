/- The iterator value (40, 62); how many layers there are (27). (printed by genTG.py) -/
import Derived.Test.YtfcpbpfemmdklaaF
namespace Go.Proofs.Ytfcpbpfemmdklaa
open Go.RowKit Go.Shelf
attribute [local go_sem] Oper.semAt_some
set_option linter.unusedSimpArgs false
set_option linter.unusedVariables false

theorem round_any {F : Fence} (hd : F.depth = none) {m m' : Nat} {P : Program} {l : Nat} {f : FuncId} {tmps : Array Value} {assign body : Code} {w : World} {R : Ending → World → Prop}
    (h : RoundIn F m P l f tmps assign body w R) : RoundIn F m' P l f tmps assign body w R := ⟨h.1, fun c cs _ => h.2 c cs (fun d e => by rw [hd] at e; cases e)⟩
theorem yield_any {F : Fence} (hd : F.depth = none) {m : Nat} (m' : Nat) {P : Program} {l : Nat} {args : Array Value} {W : World} {R : Ending → World → Prop} (h : YieldAt F m P l args W R) : YieldAt F m' P l args W R := by
  obtain ⟨fn, tmps, assign, body, hy, hR⟩ := h
  exact ⟨fn, tmps, assign, body, hy, round_any hd hR⟩
theorem spots_any (hid : Int) (kb ko dep : Nat) (w : World) : Calls Try.prog 40 #[.agg #[.int .i64 hid, .pointer (some ⟨kb, ko, none⟩), .int .i64 (dep : Int)]] w fun e w' => e = .returned (.func (.func 62) #[] #[.pointer (some ⟨w.heap.size, 0, none⟩)]) ∧ w' = w.alloc (.cells #[.int .i64 hid, .pointer (some ⟨kb, ko, none⟩), .int .i64 (dep : Int)] 65) := by
  go_enter Try.func40, Try.ntmps40
  go_wp2
  go_ret
  exact ⟨rfl, rfl⟩
/-- A home lies below the size of its world. -/
theorem Home.low {w : World} {kb ko : Nat} {h : Hd} {ls : List Loc} (H : Home w kb ko h ls) : HomeN w.heap.size w kb ko h ls := by
  refine ⟨H, World.block_lt_of_cell? w _ H.ptr, fun x hx => (H.row.1.at' x hx).2.1, fun b hb => ?_⟩
  unfold blks at hb
  obtain ⟨hd, hm, hb⟩ := List.mem_flatMap.1 hb
  obtain ⟨e, k, vs, o⟩ := All.mem H.rep hd hm
  obtain ⟨x, hx, rfl⟩ := Hd.blk_mem hb
  exact (o.1.at' x hx).2.1
theorem keeps_of_below {w w' : World} (h : Below w.heap.size w w') : Keeps none' w w' := ⟨h.os, h.tape, h.output, h.size, fun k hk _ => h.block k hk⟩
theorem HomeN.later {n₀ : Nat} {w w' : World} {kb ko : Nat} {h : Hd} {ls : List Loc} (H : HomeN n₀ w kb ko h ls) (k : Keeps none' w w') : HomeN n₀ w' kb ko h ls := ⟨H.home.later k, H.kb, H.arr, H.low⟩
/-- Spots that are ones. -/
abbrev VS (n₀ : Nat) (w0 : World) := { x : Spt // Vld n₀ w0 x }
abbrev encV {n₀ : Nat} {w0 : World} (x : VS n₀ w0) : Array Value := #[.agg #[.int .i64 x.1.hid, .pointer (some ⟨x.1.kb, x.1.ko, none⟩), .int .i64 (x.1.dep : Int), .int .i64 (x.1.i : Int)]]
def vals {n₀ : Nat} {w0 : World} (xs : List (VS n₀ w0)) : List Spt := xs.map (·.1)
set_option maxRecDepth 100000 in
set_option maxHeartbeats 1600000 in
/-- The iterator over all layers within a home. -/
theorem spots_stops (n₀ : Nat) (hid : Int) (kb ko dep : Nat) (h : Hd) (ls : List Loc) (B : Nat) (w : World) (hB : Hm w B hid kb ko dep) (H : HomeN n₀ w kb ko h ls) (hd : dep + cnt ls ≤ 1099511627776) :
    SeqStopsK Fence.wide 1 Try.prog 62 #[.pointer (some ⟨B, 0, none⟩)] (encV (n₀ := n₀) (w0 := w)) (KpS n₀ w.heap.size) (fun xs => vals xs = sps hid kb ko dep h.b h.o 0 ls) (fun pre => vals pre <+: sps hid kb ko dep h.b h.o 0 ls) (cnt ls) w := by
  intro l J Jx W hW hJ hJx hY h0
  have T := Lib.hid (tells_any w l n₀ w.heap.size (cnt ls) (fun pre W1 => ∃ q : List (VS n₀ w), vals q = pre ∧ J q W1) (fun pre W1 => ∃ q : List (VS n₀ w), vals q = pre ∧ Jx q W1)
    (fun s W1 W2 ⟨q, e, hs⟩ k => ⟨q, e, hJ q W1 W2 none hs k.grownBy (fun r e => by cases e)⟩)
    (fun m pre x W1 hv ⟨q, e, hj⟩ _ hl => (yield_any rfl m (hY q ⟨x, hv⟩ W1 hj (by rw [← e] at hl; simpa [vals] using hl))).mono (fun e2 W2 h2 => h2.elim (fun h3 => .inl ⟨h3.1, ⟨_, by rw [← e]; simp [vals], h3.2.1⟩, h3.2.2⟩) (fun h3 => .inr ⟨h3.1, ⟨_, by rw [← e]; simp [vals], h3.2⟩⟩))) ls 0 hid kb ko dep h [] W H (H.later (keeps_of_below hW)) ⟨[], rfl, h0⟩ hW.size hd (by simp))
  have b0 := (hB.later (keeps_of_below hW)).c0
  have b1 := (hB.later (keeps_of_below hW)).c1
  have b2 := (hB.later (keeps_of_below hW)).c2
  clear hJ hJx hY h0 H hB hW
  refine callsIn_of_wp Try.func62 rfl trivial ?_ rfl
  simp only [Try.ntmps62, List.size_toArray, List.length_cons, List.length_nil, Nat.reduceAdd, Nat.reduceSub, Array.replicate_succ, Array.replicate_zero, List.push_toArray, List.append_toArray, List.nil_append, List.cons_append]
  gi_wp2_with ((refine ⟨trivial, ?_⟩); gi_at_call 63; refine T.out.mono ?_; clear T; rintro e W1 (⟨rfl, ⟨q1, hq1, hJ1⟩, _⟩ | ⟨rfl, q, hq, q2, hq2, hx⟩))
  · go_end0
    exact ⟨⟨_, rfl⟩, .inl ⟨q1, by simpa using hq1, hJ1⟩⟩
  · go_end0
    exact ⟨⟨_, rfl⟩, .inr ⟨q2, by rw [hq2]; simpa using hq, hx⟩⟩
/-- A number in a block of its own. -/
def Nb (w : World) (B : Nat) (x : Int) : Prop := w.heap[B]? = some (.cells #[.int .i64 x] 3 (0, 0))
theorem Nb.lt {w : World} {B : Nat} {x : Int} (h : Nb w B x) : B < w.heap.size := lt_of_block h
theorem Nb.c {w : World} {B : Nat} {x : Int} (h : Nb w B x) : w.cell? ⟨B, 0, none⟩ = some (.int .i64 x) := by simp [World.cell?, show w.heap[B]? = _ from h]
theorem Nb.fr {w : World} {B : Nat} {x : Int} (h : Nb w B x) : w.frozen? ⟨B, 0, none⟩ = false := by simp [World.frozen?, show w.heap[B]? = _ from h]
theorem Nb.later {w w' : World} {B : Nat} {x : Int} (h : Nb w B x) (k : Keeps none' w w') : Nb w' B x := (k.later B h.lt).trans h
theorem Nb.set {w : World} {B : Nat} {x : Int} (h : Nb w B x) (y : Int) : Nb (w.setCell ⟨B, 0, none⟩ (.int .i64 y)) B y := block_set (i := 0) h (.int .i64 y)
/-- A block of cells stands through what a loop over an iterator turns. -/
theorem block_own {W W' : World} {row : Option Nat} {B b : Nat} {c : Array Value} {t : TypeId} {f : Nat × Nat} (e : W.heap[b]? = some (.cells c t f)) (hg : W.grownBy W' row) (hr : ∀ r, row = some r → B ≤ r ∧ ∃ o : Obj, W.heap[r]? = some o ∧ o.isCells = false) : W'.heap[b]? = some (.cells c t f) :=
  (hg.block b (lt_of_block e) (fun e2 => by
    obtain ⟨-, o, ho, hc⟩ := hr b e2.symm
    rw [e] at ho
    cases ho
    simp [Obj.isCells] at hc)).trans e
theorem keeps_own {w W W' : World} {row : Option Nat} {B : Nat} (h : Keeps none' w W) (hB : w.heap.size ≤ B) (hg : W.grownBy W' row) (hr : ∀ r, row = some r → B ≤ r ∧ ∃ o : Obj, W.heap[r]? = some o ∧ o.isCells = false) : Keeps none' w W' :=
  h.grown hg (fun k hk e => by have := (hr k e).1; omega)
theorem kpS_set {n₀ n₁ : Nat} (W : World) (b i : Nat) (v : Value) (h1 : n₀ ≤ b) (h2 : b < n₁) : KpS n₀ n₁ W (W.setCell ⟨b, i, none⟩ v) :=
  ⟨rfl, rfl, rfl, by simp [World.setCell], fun b' c t f e hb => Below.heap_setCell _ _ _ _ (fun e2 => by subst e2; omega)⟩
set_option maxRecDepth 100000 in
set_option maxHeartbeats 3200000 in
/-- How many layers there are. -/
theorem count_any (hid : Int) (kb ko dep : Nat) (h : Hd) (ls : List Loc) (w : World) (H : Home w kb ko h ls) (hd : dep + cnt ls ≤ 1099511627776) :
    Calls Try.prog 27 #[.agg #[.int .i64 hid, .pointer (some ⟨kb, ko, none⟩), .int .i64 (dep : Int)]] w fun e w' => e = .returned (.int .i64 (cnt ls : Int)) ∧ Keeps none' w w' := by
  have H0 := Lib.hid H.low
  have K1 := Lib.hid (((Keeps.refl none' w).alloc (.cells #[.int .i64 hid, .pointer (some ⟨kb, ko, none⟩), .int .i64 (dep : Int)] 65)).alloc (.cells #[.int .i64 0] 3))
  have A1 := Lib.hid ((Hm.new w hid kb ko dep).later ((Keeps.refl none' _).alloc (.cells #[.int .i64 0] 3)))
  have N1 := Lib.hid (heap_alloc_new (w.alloc (.cells #[.int .i64 hid, .pointer (some ⟨kb, ko, none⟩), .int .i64 (dep : Int)] 65)) (.cells #[.int .i64 0] 3))
  have hs : (w.alloc (.cells #[.int .i64 hid, .pointer (some ⟨kb, ko, none⟩), .int .i64 (dep : Int)] 65)).heap.size = w.heap.size + 1 := by simp
  rw [hs] at N1
  have ZS := Lib.hid (show ((w.alloc (.cells #[.int .i64 hid, .pointer (some ⟨kb, ko, none⟩), .int .i64 (dep : Int)] 65)).alloc (.cells #[.int .i64 0] 3)).heap.size = w.heap.size + 2 from by simp)
  have HD := Lib.hid hd
  clear H hd hs
  refine (callsIn_wide (n := 2)).1 ?_
  refine callsIn_of_wp_marks Try.func27 rfl trivial ?_ rfl
  simp only [Try.ntmps27, List.size_toArray, List.length_cons, List.length_nil, Nat.reduceAdd, Nat.reduceSub, Array.replicate_succ, Array.replicate_zero, List.push_toArray, List.append_toArray, List.nil_append, List.cons_append]
  have c0 := A1.out.c0
  have c1 := A1.out.c1
  have c2 := A1.out.c2
  gi_wp2_with ((refine ⟨trivial, ?_⟩); gi_at_call 40; refine (callsIn_wide.2 (spots_any hid kb ko dep _)).mono ?_; rintro e w8 ⟨rfl, hw8⟩)
  have K8 := Lib.hid (K1.out.alloc (.cells #[.int .i64 hid, .pointer (some ⟨kb, ko, none⟩), .int .i64 (dep : Int)] 65))
  have N8 := Lib.hid (show Nb ((((w.alloc (.cells #[.int .i64 hid, .pointer (some ⟨kb, ko, none⟩), .int .i64 (dep : Int)] 65)).alloc (.cells #[.int .i64 0] 3))).alloc (.cells #[.int .i64 hid, .pointer (some ⟨kb, ko, none⟩), .int .i64 (dep : Int)] 65)) (w.heap.size + 1) 0 from (Below.heap_alloc _ _ _ (lt_of_block N1.out)).trans N1.out)
  have B8 := Lib.hid (Hm.new ((w.alloc (.cells #[.int .i64 hid, .pointer (some ⟨kb, ko, none⟩), .int .i64 (dep : Int)] 65)).alloc (.cells #[.int .i64 0] 3)) hid kb ko dep)
  rw [ZS.out] at B8
  have Z8 := Lib.hid (show ((((w.alloc (.cells #[.int .i64 hid, .pointer (some ⟨kb, ko, none⟩), .int .i64 (dep : Int)] 65)).alloc (.cells #[.int .i64 0] 3))).alloc (.cells #[.int .i64 hid, .pointer (some ⟨kb, ko, none⟩), .int .i64 (dep : Int)] 65)).heap.size = w.heap.size + 3 from by simp)
  clear K1 A1 N1 ZS c0 c1 c2
  generalize (((w.alloc (.cells #[.int .i64 hid, .pointer (some ⟨kb, ko, none⟩), .int .i64 (dep : Int)] 65)).alloc (.cells #[.int .i64 0] 3))).alloc (.cells #[.int .i64 hid, .pointer (some ⟨kb, ko, none⟩), .int .i64 (dep : Int)] 65) = w8 at *
  have H8 := Lib.hid (H0.out.later K8.out)
  refine wpIn_rangeFunc_ownG rfl (by decide) (gf := 62) (lb := #[.pointer (some ⟨w.heap.size + 2, 0, none⟩)]) rfl trivial (enters_of Try.func62 (by kernel_rfl) rfl) (spots_stops w.heap.size hid kb ko dep h ls (w.heap.size + 2) w8 B8.out H8.out HD.out) KpS.trans (fun W l o o' hl e1 e2 _ => KpS.put W l o o' e1 e2) (Below.refl _ _) (fun _ => rfl)
    (fun pre W => Nb W (w.heap.size + 1) (pre.length : Int) ∧ Keeps none' w W ∧ w8.heap.size ≤ W.heap.size)
    (fun _ _ _ => False)
    (fun pre W W' row hh hg hr => ⟨block_own hh.1 hg hr, keeps_own hh.2.1 (by rw [Z8.out]; omega) hg hr, Nat.le_trans hh.2.2 hg.size⟩)
    (fun _ _ _ _ _ hh _ _ => hh)
    ⟨N8.out, K8.out, Nat.le_refl _⟩
    (fun x => { tmps := #[.agg #[.int .i64 hid, .pointer (some ⟨kb, ko, none⟩), .int .i64 (dep : Int)], .pointer (some ⟨w.heap.size, 0, none⟩), .int .i64 0, .pointer (some ⟨w.heap.size + 1, 0, none⟩), .agg #[.int .i64 hid, .pointer (some ⟨kb, ko, none⟩), .int .i64 (dep : Int)], .func (.func 62) #[] #[.pointer (some ⟨w.heap.size + 1 + 1, 0, none⟩)], .agg #[.int .i64 x.1.hid, .pointer (some ⟨x.1.kb, x.1.ko, none⟩), .int .i64 (x.1.dep : Int), .int .i64 (x.1.i : Int)], undef, undef, undef], defers := [] })
    ?assign ?body ?done ?stop
  case assign =>
    intro l x W K hK
    gi_wp2
    simpa [encV] using hK
  case body =>
    rintro l pre x W ⟨hN, hk, hsz⟩ hlt
    have cN := hN.c
    have fN := hN.fr
    have hd2 := HD.out
    have hb : (pre.length : Int) < 1099511627776 := by omega
    have hb0 : (0 : Int) ≤ (pre.length : Int) := by omega
    clear hd2
    gi_wp2
    refine ⟨(KeepsOthers.setCell _ _ _).from _, kpS_set W (w.heap.size + 1) 0 _ (by omega) (by rw [Z8.out]; omega), ?_, hk.setCell (fun e => by have e' : w.heap.size + 1 < w.heap.size := e; omega) _, by simp [World.setCell]; omega⟩
    rw [List.length_append, List.length_singleton]
    exact hN.set _
  case done =>
    rintro D xs W hD hS ⟨hN, hk, hsz⟩ hK
    have hxl : xs.length = cnt ls := by rw [← sps_length hid kb ko dep h.b h.o 0 ls, ← hS]; simp [vals]
    rw [hxl] at hN
    clear hxl hS
    have cN := hN.c
    gi_wp2
    refine ⟨by simp, .inl ⟨_, _, rfl, run_takeDeferred hK, ?_⟩⟩
    refine ⟨.int .i64 (cnt ls : Int), ?_, rfl, hk.grown (grownBy_putObj' _ D (.deferred none)) (fun q hq e => by cases e; rw [Z8.out] at hD; omega)⟩
    simp [results, Try.f27, go_sem]
  case stop => exact fun _ _ _ _ _ _ h => h.elim
end Go.Proofs.Ytfcpbpfemmdklaa
