/- The root (21), how many and how deep (14, 15), groups (47), layers (57), what a spot has within it (51, 52). -/
import Derived.Test.YtfcpbpfemmdklaaH
import Derived.Test.YtfcpbpfemmdklaaI
namespace Go.Proofs.Ytfcpbpfemmdklaa
open Go.RowKit Go.Lib
set_option linter.unusedSimpArgs false
set_option linter.unusedVariables false

set_option maxHeartbeats 800000 in
theorem root_any (R : Nat) (w : World) : Calls Try.prog 21 #[.pointer (some ⟨R, 0, none⟩)] w fun e w' => e = .returned (.agg #[.int .i64 0, .pointer (some ⟨R, 3, none⟩), .int .i64 0]) ∧ Keeps none' w w' := by
  have K0 := Lib.hid ((Keeps.refl none' w).alloc (.cells #[.int .i64 0, .pointer (some ⟨R, 3, none⟩), .int .i64 0] 65))
  go_enter Try.func21, Try.ntmps21
  go_wp2
  exact bodyPost_ret (results_cell_row rfl _ _ w.heap.size 65 #[.int .i64 0, .pointer (some ⟨R, 3, none⟩), .int .i64 0] (0, 0) _ rfl (heap_alloc_new _ _) Try.underlying65 rfl (by kernel_rfl)) rfl ⟨rfl, K0.out⟩
/-- A document in a block of its own. -/
def Dc (w : World) (R : Nat) (x y z : Int) (h : Hd) : Prop := w.heap[R]? = some (.cells #[.int .i64 x, .int .i64 y, .int .i64 z, .slice h.a h.n h.c] 25 (0, 0))
theorem Dc.lt {w : World} {R : Nat} {x y z : Int} {h : Hd} (d : Dc w R x y z h) : R < w.heap.size := lt_of_block d
theorem Dc.c0 {w : World} {R : Nat} {x y z : Int} {h : Hd} (d : Dc w R x y z h) : w.cell? ⟨R, 0, none⟩ = some (.int .i64 x) := by simp [World.cell?, show w.heap[R]? = _ from d]
theorem Dc.c1 {w : World} {R : Nat} {x y z : Int} {h : Hd} (d : Dc w R x y z h) : w.cell? ⟨R, 1, none⟩ = some (.int .i64 y) := by simp [World.cell?, show w.heap[R]? = _ from d]
theorem Dc.c2 {w : World} {R : Nat} {x y z : Int} {h : Hd} (d : Dc w R x y z h) : w.cell? ⟨R, 2, none⟩ = some (.int .i64 z) := by simp [World.cell?, show w.heap[R]? = _ from d]
theorem Dc.c3 {w : World} {R : Nat} {x y z : Int} {h : Hd} (d : Dc w R x y z h) : w.cell? ⟨R, 3, none⟩ = some (.slice h.a h.n h.c) := by simp [World.cell?, show w.heap[R]? = _ from d]
theorem Dc.fr {w : World} {R i : Nat} {x y z : Int} {h : Hd} (d : Dc w R x y z h) : w.frozen? ⟨R, i, none⟩ = false := by simp [World.frozen?, show w.heap[R]? = _ from d]
theorem Dc.new (w : World) (x y z : Int) (h : Hd) : Dc (w.alloc (.cells #[.int .i64 x, .int .i64 y, .int .i64 z, .slice h.a h.n h.c] 25)) w.heap.size x y z h := heap_alloc_new _ _
theorem Dc.later {w w' : World} {R : Nat} {x y z : Int} {h : Hd} (d : Dc w R x y z h) (k : Keeps none' w w') : Dc w' R x y z h := (k.later R d.lt).trans d
/-- A document as it is handed over. -/
structure DocV (w : World) (h : Hd) (ls : List Loc) : Prop where
  row : ReadR w 48 19 h (flat ls)
  rep : Rep w ls
theorem DocV.later {w w' : World} {h : Hd} {ls : List Loc} (d : DocV w h ls) (k : Keeps none' w w') : DocV w' h ls := ⟨d.row.keep k (fun _ _ h => h), d.rep.later k⟩
theorem DocV.home {w : World} {R : Nat} {x y z : Int} {h : Hd} {ls : List Loc} (d : DocV w h ls) (c : Dc w R x y z h) : Home w R 3 h ls := ⟨c.c3, d.row, d.rep⟩
set_option maxHeartbeats 800000 in
theorem count14 (x y z : Int) (h : Hd) (ls : List Loc) (w : World) (D : DocV w h ls) (hc : cnt ls ≤ 1099511627776) : Calls Try.prog 14 #[.agg #[.int .i64 x, .int .i64 y, .int .i64 z, .slice h.a h.n h.c]] w fun e w' => e = .returned (.int .i64 (cnt ls : Int)) ∧ Keeps none' w w' := by
  have K0 := Lib.hid ((Keeps.refl none' w).alloc (.cells #[.int .i64 x, .int .i64 y, .int .i64 z, .slice h.a h.n h.c] 25))
  have C0 := Lib.hid (Dc.new w x y z h)
  have HD := Lib.hid D
  have HC := Lib.hid hc
  clear D hc
  go_enter Try.func14, Try.ntmps14
  go_wp2_with (first
    | (refine (root_any w.heap.size _).mono ?_; rintro e w2 ⟨rfl, hk2⟩; have K2 := Lib.hid (K0.out.next hk2); have C2 := Lib.hid (C0.out.later hk2); clear hk2)
    | (refine (count_any 0 w.heap.size 3 0 h ls w2 ((HD.out.later K2.out).home C2.out) (by rw [Nat.zero_add]; exact HC.out)).mono ?_; rintro e w3 ⟨rfl, hk3⟩; have K3 := Lib.hid (K2.out.next hk3); clear hk3))
  go_ret
  exact ⟨rfl, K3.out⟩
set_option maxHeartbeats 800000 in
theorem depth15 (x y z : Int) (h : Hd) (ls : List Loc) (w : World) (D : DocV w h ls) (hc : cnt ls ≤ 1099511627776) : Calls Try.prog 15 #[.agg #[.int .i64 x, .int .i64 y, .int .i64 z, .slice h.a h.n h.c]] w fun e w' => ∃ R : Nat, e = .returned (.int .i64 (deepS 0 (sps 0 R 3 0 h.b h.o 0 ls) : Int)) ∧ Keeps none' w w' := by
  have K0 := Lib.hid ((Keeps.refl none' w).alloc (.cells #[.int .i64 x, .int .i64 y, .int .i64 z, .slice h.a h.n h.c] 25))
  have C0 := Lib.hid (Dc.new w x y z h)
  have HD := Lib.hid D
  have HC := Lib.hid hc
  clear D hc
  go_enter Try.func15, Try.ntmps15
  go_wp2_with (first
    | (refine (root_any w.heap.size _).mono ?_; rintro e w2 ⟨rfl, hk2⟩; have K2 := Lib.hid (K0.out.next hk2); have C2 := Lib.hid (C0.out.later hk2); clear hk2)
    | (refine (deepest_any 0 w.heap.size 3 0 h ls w2 ((HD.out.later K2.out).home C2.out) (by rw [Nat.zero_add]; exact HC.out)).mono ?_; rintro e w3 ⟨rfl, hk3⟩; have K3 := Lib.hid (K2.out.next hk3); clear hk3))
  go_ret
  exact ⟨_, rfl, K3.out⟩
/-- What find answers, as a value. -/
def foundV (X : Option Spt) : Value := match X with
  | some X => .tuple #[.agg #[.int .i64 X.hid, .pointer (some ⟨X.kb, X.ko, none⟩), .int .i64 (X.dep : Int), .int .i64 (X.i : Int)], .bool true]
  | none => .tuple #[.agg #[.int .i64 0, .pointer none, .int .i64 0, .int .i64 0], .bool false]
theorem found_eq {id : Int} {xs : List Spt} {e : Ending} (h : Found id xs e) : e = .returned (foundV (findP id xs)) := by
  unfold Found at h
  unfold foundV
  cases hf : findP id xs with
  | none => rw [hf] at h; exact h
  | some X => rw [hf] at h; exact h
set_option maxRecDepth 100000 in
set_option maxHeartbeats 800000 in
theorem layer57 (R : Nat) (x y z : Int) (h : Hd) (ls : List Loc) (id : Int) (w : World) (C : Dc w R x y z h) (D : DocV w h ls) (hc : cnt ls ≤ 1099511627776) :
    Calls Try.prog 57 #[.pointer (some ⟨R, 0, none⟩), .int .i64 id] w fun e w' => (match findP id (sps 0 R 3 0 h.b h.o 0 ls) with
      | some X => e = .returned (.tuple #[.pointer (some ⟨X.b, X.o, none⟩), .int .i64 0])
      | none => e = .returned (.tuple #[.pointer none, .int .i64 40])) ∧ Keeps none' w w' := by
  have HD := Lib.hid D
  have HC := Lib.hid C
  have HN := Lib.hid hc
  clear D C hc
  cases hf : findP id (sps 0 R 3 0 h.b h.o 0 ls) with
  | none =>
    have HF := Lib.hid hf
    clear hf
    go_enter Try.func57, Try.ntmps57
    go_wp2_with (first
      | (refine (root_any R w).mono ?_; rintro e w2 ⟨rfl, hk2⟩; have K2 := Lib.hid hk2; clear hk2)
      | (refine (find_any 0 R 3 0 h ls id w2 ((HD.out.later K2.out).home (HC.out.later K2.out)) (by rw [Nat.zero_add]; exact HN.out)).mono ?_; rintro e w3 ⟨hf3, hk3⟩; have hf4 := found_eq hf3; rw [HF.out] at hf4; simp only [foundV] at hf4; subst hf4; have K3 := Lib.hid (K2.out.next hk3); clear hk3 hf3))
    go_ret2
    exact ⟨rfl, K3.out.alloc _⟩
  | some X =>
    have HF := Lib.hid hf
    have HV := Lib.hid (fun w' (k : Keeps none' w w') => sps_valid (((HD.out.later k).home (HC.out.later k)).low) (by rw [Nat.zero_add]; exact HN.out) X (List.mem_of_find?_eq_some hf))
    clear hf
    go_enter Try.func57, Try.ntmps57
    go_wp2_with (first
      | (refine (root_any R w).mono ?_; rintro e w2 ⟨rfl, hk2⟩; have K2 := Lib.hid hk2; clear hk2)
      | (refine (find_any 0 R 3 0 h ls id w2 ((HD.out.later K2.out).home (HC.out.later K2.out)) (by rw [Nat.zero_add]; exact HN.out)).mono ?_; rintro e w3 ⟨hf3, hk3⟩; have hf4 := found_eq hf3; rw [HF.out] at hf4; simp only [foundV] at hf4; subst hf4; have K3 := Lib.hid (K2.out.next hk3); clear hk3 hf3)
      | (obtain ⟨h', ls', off, hh', hl', ha', ho', -⟩ := HV.out _ (K3.out.alloc (.cells #[.int .i64 X.hid, .pointer (some ⟨X.kb, X.ko, none⟩), .int .i64 (X.dep : Int), .int .i64 (X.i : Int)] 67)); refine (layer_any X.hid X.kb X.ko (X.dep : Int) h' ls' X.i X.l X.b off _ hh'.home ha' hl').mono ?_; rw [← ho']; rintro e w4 ⟨rfl, hk4⟩; have K4 := Lib.hid ((K3.out.alloc _).next hk4); clear hk4 hh' hl' ha' ho'))
    go_ret2
    exact ⟨rfl, K4.out⟩
theorem results_cell_row2 {P : Program} {fn : Func} {p u : Tmp} {ty : TypeId} (h : fn.results = #[.cell p ty, .tmp u]) (tmps : Array Value) (w : World) (g : Nat) (t : TypeId) (cs : Array Value) (fr : Nat × Nat) (d : TypeDesc)
    (hp : tmps.getD p undef = .pointer (some ⟨g, 0, none⟩)) (hg : w.heap[g]? = some (.cells cs t fr))
    (hu : P.underlying ty = some d) (hd : (match d with | .struct _ | .array _ _ => true | _ => false) = true) (hi : (P.info? ty).map (·.size) = some cs.size) :
    (results fn tmps).run P w = .ok (.tuple #[.agg cs, tmps.getD u undef]) w := by
  have hp' : tmps[p]?.getD undef = .pointer (some ⟨g, 0, none⟩) := by simpa using hp
  simp [results, h, hp', asAddr, run_loadVar_row w g t ty cs fr d hg hu hd hi]
theorem three_cells {W : World} {b : Nat} {x y z : Value} {t : TypeId} (h : W.heap[b]? = some (.cells #[x, y, z] t (0, 0))) : (W.cell? ⟨b, 0, none⟩ = some x ∧ W.cell? ⟨b, 1, none⟩ = some y ∧ W.cell? ⟨b, 2, none⟩ = some z) ∧ ∀ i, W.frozen? ⟨b, i, none⟩ = false := by
  refine ⟨⟨?_, ?_, ?_⟩, fun i => ?_⟩ <;> simp [World.cell?, World.frozen?, h]
def homeV (id : Int) (a : Option Addr) (dep : Int) : Value := .agg #[.int .i64 id, .pointer a, .int .i64 dep]
theorem keeps_set3 {w w' : World} (k : Keeps none' w w') {Z : Nat} (hZ : w.heap.size ≤ Z) (x y z : Value) : Keeps none' w (((w'.setCell ⟨Z, 0, none⟩ x).setCell ⟨Z, 1, none⟩ y).setCell ⟨Z, 2, none⟩ z) :=
  ((k.setCell (fun e => by have e' : Z < w.heap.size := e; omega) _).setCell (fun e => by have e' : Z < w.heap.size := e; omega) _).setCell (fun e => by have e' : Z < w.heap.size := e; omega) _
theorem block_set3 {w : World} {R : Nat} {x y z : Value} (h : w.heap[R]? = some (.cells #[x, y, z] 65 (0, 0))) (x' y' z' : Value) :
    (((w.setCell ⟨R, 0, none⟩ x').setCell ⟨R, 1, none⟩ y').setCell ⟨R, 2, none⟩ z').heap[R]? = some (.cells #[x', y', z'] 65 (0, 0)) := by
  have h0 := block_set (i := 0) h x'
  have h1 := block_set (i := 1) h0 y'
  have h2 := block_set (i := 2) h1 z'
  exact h2
/-- A group, or the root. -/
def groupV (R : Nat) (id : Int) (xs : List Spt) : Value × Int :=
  if id = 0 then (homeV 0 (some ⟨R, 3, none⟩) 0, 0) else match findP id xs with
  | none => (homeV 0 none 0, 40)
  | some X => if X.l.dat.kind = 1 then (homeV X.l.dat.id (some ⟨X.b, X.o + 18, none⟩) ((X.dep + 1 : Nat) : Int), 0) else (homeV 0 none 0, 41)
set_option maxRecDepth 100000 in
set_option maxHeartbeats 1600000 in
theorem group47 (R : Nat) (x y z : Int) (h : Hd) (ls : List Loc) (id : Int) (w : World) (C : Dc w R x y z h) (D : DocV w h ls) (hc : cnt ls ≤ 1099511627776) :
    Calls Try.prog 47 #[.pointer (some ⟨R, 0, none⟩), .int .i64 id] w fun e w' => e = .returned (.tuple #[(groupV R id (sps 0 R 3 0 h.b h.o 0 ls)).1, .int .i64 (groupV R id (sps 0 R 3 0 h.b h.o 0 ls)).2]) ∧ Keeps none' w w' := by
  have HD := Lib.hid D
  have HC := Lib.hid C
  have HN := Lib.hid hc
  have R0 := Lib.hid (heap_alloc_new w (.cells #[.int .i64 0, .pointer none, .int .i64 0] 65))
  have K0 := Lib.hid ((Keeps.refl none' w).alloc (.cells #[.int .i64 0, .pointer none, .int .i64 0] 65))
  clear D C hc
  by_cases h0 : id = 0
  · subst h0
    have GV := Lib.hid (show groupV R 0 (sps 0 R 3 0 h.b h.o 0 ls) = (homeV 0 (some ⟨R, 3, none⟩) 0, 0) from by unfold groupV; rw [if_pos rfl])
    go_enter Try.func47, Try.ntmps47
    go_upto_region 2 with (fail)
    generalize w.alloc (.cells #[.int .i64 0, .pointer none, .int .i64 0] 65) = w1 at *
    obtain ⟨Z, hZ⟩ : ∃ Z, Z = w.heap.size := ⟨_, rfl⟩
    rw [← hZ] at R0
    rw [← hZ]
    have ZS := Lib.hid (show w.heap.size ≤ Z from by omega)
    clear hZ
    go_wp2_with (refine (root_any R w1).mono ?_; rintro e w2 ⟨rfl, hk2⟩; have K2 := Lib.hid (K0.out.next hk2); have R2 := Lib.hid ((hk2.later Z (lt_of_block R0.out)).trans R0.out); obtain ⟨⟨r0, r1, r2⟩, rf⟩ := three_cells R2.out; have f0 := rf 0; have f1 := rf 1; have f2 := rf 2; clear hk2 rf)
    refine bodyPost_ret (results_cell_row2 rfl _ _ Z 65 _ (0, 0) _ rfl (block_set3 R2.out _ _ _) Try.underlying65 rfl (by kernel_rfl)) rfl ?_
    rw [GV.out]
    exact ⟨rfl, keeps_set3 K2.out ZS.out _ _ _⟩
  · have e0 : (id == 0) = false := by simpa using h0
    obtain ⟨Z, hZ⟩ : ∃ Z, Z = w.heap.size := ⟨_, rfl⟩
    have ZS := Lib.hid hZ
    cases hf : findP id (sps 0 R 3 0 h.b h.o 0 ls) with
    | none =>
      have HF := Lib.hid hf
      have GV := Lib.hid (show groupV R id (sps 0 R 3 0 h.b h.o 0 ls) = (homeV 0 none 0, 40) from by unfold groupV; rw [if_neg h0, hf])
      clear hf h0
      go_enter Try.func47, Try.ntmps47
      go_upto_region 3 with (fail)
      generalize w.alloc (.cells #[.int .i64 0, .pointer none, .int .i64 0] 65) = w1 at *
      rw [← hZ] at R0
      rw [← hZ]
      clear hZ
      go_upto_region 5 with (first
        | (refine (root_any R w1).mono ?_; rintro e w2 ⟨rfl, hk2⟩; have K2 := Lib.hid (K0.out.next hk2); have K12 := Lib.hid hk2; clear hk2)
        | (refine (find_any 0 R 3 0 h ls id w2 ((HD.out.later K2.out).home (HC.out.later K2.out)) (by rw [Nat.zero_add]; exact HN.out)).mono ?_; rintro e w3 ⟨hf3, hk3⟩; have hf4 := found_eq hf3; rw [HF.out] at hf4; simp only [foundV] at hf4; subst hf4; have K3 := Lib.hid (K2.out.next hk3); have K13 := Lib.hid (K12.out.next hk3); clear hk3 hf3))
      have R3 := Lib.hid (((K13.out.alloc (.cells #[.int .i64 0, .pointer none, .int .i64 0, .int .i64 0] 67)).later Z (lt_of_block R0.out)).trans R0.out)
      have K4 := Lib.hid (K3.out.alloc (.cells #[.int .i64 0, .pointer none, .int .i64 0, .int .i64 0] 67))
      generalize w3.alloc (.cells #[.int .i64 0, .pointer none, .int .i64 0, .int .i64 0] 67) = w4 at *
      obtain ⟨⟨r0, r1, r2⟩, rf⟩ := three_cells R3.out
      have f0 := rf 0
      have f1 := rf 1
      have f2 := rf 2
      clear rf
      go_wp2_with fail
      refine bodyPost_ret (results_cell_row2 rfl _ _ Z 65 _ (0, 0) _ rfl (block_set3 R3.out _ _ _) Try.underlying65 rfl (by kernel_rfl)) rfl ?_
      rw [GV.out]
      exact ⟨rfl, keeps_set3 K4.out (by rw [ZS.out]; exact Nat.le_refl _) _ _ _⟩
    | some X =>
      have HF := Lib.hid hf
      have HV := Lib.hid (fun w' (k : Keeps none' w w') => sps_valid (((HD.out.later k).home (HC.out.later k)).low) (by rw [Nat.zero_add]; exact HN.out) X (List.mem_of_find?_eq_some hf))
      have GV := Lib.hid (show groupV R id (sps 0 R 3 0 h.b h.o 0 ls) = if X.l.dat.kind = 1 then (homeV X.l.dat.id (some ⟨X.b, X.o + 18, none⟩) ((X.dep + 1 : Nat) : Int), 0) else (homeV 0 none 0, 41) from by unfold groupV; rw [if_neg h0, hf])
      clear hf h0
      go_enter Try.func47, Try.ntmps47
      go_upto_region 3 with (fail)
      generalize w.alloc (.cells #[.int .i64 0, .pointer none, .int .i64 0] 65) = w1 at *
      rw [← hZ] at R0
      rw [← hZ]
      clear hZ
      go_upto_region 6 with (first
        | (refine (root_any R w1).mono ?_; rintro e w2 ⟨rfl, hk2⟩; have K2 := Lib.hid (K0.out.next hk2); have K12 := Lib.hid hk2; clear hk2)
        | (refine (find_any 0 R 3 0 h ls id w2 ((HD.out.later K2.out).home (HC.out.later K2.out)) (by rw [Nat.zero_add]; exact HN.out)).mono ?_; rintro e w3 ⟨hf3, hk3⟩; have hf4 := found_eq hf3; rw [HF.out] at hf4; simp only [foundV] at hf4; subst hf4; have K3 := Lib.hid (K2.out.next hk3); have K13 := Lib.hid (K12.out.next hk3); clear hk3 hf3))
      obtain ⟨S, hS⟩ : ∃ S, S = w3.heap.size := ⟨_, rfl⟩
      have R3 := Lib.hid (((K13.out.alloc (.cells #[.int .i64 X.hid, .pointer (some ⟨X.kb, X.ko, none⟩), .int .i64 (X.dep : Int), .int .i64 (X.i : Int)] 67)).later Z (lt_of_block R0.out)).trans R0.out)
      have K4 := Lib.hid (K3.out.alloc (.cells #[.int .i64 X.hid, .pointer (some ⟨X.kb, X.ko, none⟩), .int .i64 (X.dep : Int), .int .i64 (X.i : Int)] 67))
      have S4 := Lib.hid (Sp.new w3 X.hid X.kb X.ko (X.dep : Int) (X.i : Int))
      rw [← hS] at S4
      rw [← hS]
      clear hS
      generalize w3.alloc (.cells #[.int .i64 X.hid, .pointer (some ⟨X.kb, X.ko, none⟩), .int .i64 (X.dep : Int), .int .i64 (X.i : Int)] 67) = w4 at *
      obtain ⟨h', ls', off, hh', hl', ha', ho', hd'⟩ := HV.out w4 K4.out
      have LA := Lib.hid (layer_any X.hid X.kb X.ko (X.dep : Int) h' ls' X.i X.l X.b off w4 hh'.home ha' hl')
      have HK := Lib.hid (show ∀ w', Keeps none' w4 w' → w'.cell? ⟨X.b, X.o + 1, none⟩ = some (.int .i64 X.l.dat.kind) from fun w' k => by
        obtain ⟨b', o', e, hc⟩ := (hh'.home.later k).lies (by have := (List.getElem?_eq_some_iff.1 hl').1; omega)
        rw [ha'] at e
        cases e
        rw [ho']
        exact hc X.i X.l hl' 1 _ (by cases X.l; rfl))
      have WI := Lib.hid (fun w' (k : Keeps none' w4 w') => within_any X.hid X.kb X.ko X.dep h' ls' X.i X.l X.b off w' (hh'.home.later k) ha' hl' hd')
      have HO := Lib.hid ho'
      clear hh' hl' ha' ho' hd'
      have s0 := S4.out.c0
      have s1 := S4.out.c1
      have s2 := S4.out.c2
      have s3 := S4.out.c3
      by_cases hk : X.l.dat.kind = 1
      · rw [if_pos hk] at GV
        have e1 : (X.l.dat.kind == 1) = true := by simpa using hk
        have e2 : (X.l.dat.kind != 1) = false := by simp [hk]
        clear hk
        go_upto_region 8 with (refine LA.out.mono ?_; rw [← HO.out]; rintro e w5 ⟨rfl, hk5⟩; have K5 := Lib.hid (K4.out.next hk5); have K45 := Lib.hid hk5; have kd := HK.out w5 hk5; clear hk5)
        have S5 := Lib.hid (S4.out.later K45.out)
        have R5 := Lib.hid ((K45.out.later Z (lt_of_block R3.out)).trans R3.out)
        clear s0 s1 s2 s3
        have s0 := S5.out.c0
        have s1 := S5.out.c1
        have s2 := S5.out.c2
        have s3 := S5.out.c3
        go_wp2_with (refine (WI.out w5 K45.out).mono ?_; rw [← HO.out]; rintro e w6 ⟨rfl, hk6⟩; have K6 := Lib.hid (K5.out.next hk6); have R6 := Lib.hid ((hk6.later Z (lt_of_block R5.out)).trans R5.out); obtain ⟨⟨r0, r1, r2⟩, rf⟩ := three_cells R6.out; have f0 := rf 0; have f1 := rf 1; have f2 := rf 2; clear hk6 rf)
        refine bodyPost_ret (results_cell_row2 rfl _ _ Z 65 _ (0, 0) _ rfl (block_set3 R6.out _ _ _) Try.underlying65 rfl (by kernel_rfl)) rfl ?_
        rw [GV.out]
        exact ⟨rfl, keeps_set3 K6.out (by rw [ZS.out]; exact Nat.le_refl _) _ _ _⟩
      · rw [if_neg hk] at GV
        have e1 : (X.l.dat.kind == 1) = false := by simpa using hk
        have e2 : (X.l.dat.kind != 1) = true := by simpa using hk
        clear hk
        go_upto_region 7 with (refine LA.out.mono ?_; rw [← HO.out]; rintro e w5 ⟨rfl, hk5⟩; have K5 := Lib.hid (K4.out.next hk5); have K45 := Lib.hid hk5; have kd := HK.out w5 hk5; clear hk5)
        have R5 := Lib.hid ((K45.out.later Z (lt_of_block R3.out)).trans R3.out)
        obtain ⟨⟨r0, r1, r2⟩, rf⟩ := three_cells R5.out
        have f0 := rf 0
        have f1 := rf 1
        have f2 := rf 2
        clear rf s0 s1 s2 s3
        go_wp2_with fail
        refine bodyPost_ret (results_cell_row2 rfl _ _ Z 65 _ (0, 0) _ rfl (block_set3 R5.out _ _ _) Try.underlying65 rfl (by kernel_rfl)) rfl ?_
        rw [GV.out]
        exact ⟨rfl, keeps_set3 K5.out (by rw [ZS.out]; exact Nat.le_refl _) _ _ _⟩
end Go.Proofs.Ytfcpbpfemmdklaa
