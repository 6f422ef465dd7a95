/- Texts of a layer, one behind the other. -/
import Derived.Test.YtfcpbpfemmdklaaGreatMAe
/- Copies of documents, Parent. -/
namespace Go.Proofs.YtfcpbpfemmdklaaGreat.Tr
open Go.RowKit Go.Lib
set_option linter.unusedSimpArgs false
set_option linter.unusedVariables false

theorem Dc.s3 {w : World} {R : Nat} {x y z : Int} {h : Hd} (d : Dc w R x y z h) (h' : Hd) : Dc (w.setCell ⟨R, 3, none⟩ (.slice h'.a h'.n h'.c)) R x y z h' := block_set (i := 3) d (.slice h'.a h'.n h'.c)
theorem Dc.s2 {w : World} {R : Nat} {x y z : Int} {h : Hd} (d : Dc w R x y z h) (z' : Int) : Dc (w.setCell ⟨R, 2, none⟩ (.int .i64 z')) R x y z' h := block_set (i := 2) d (.int .i64 z')
/-- A copy of a document. -/
structure CopyD (B : Nat) (w : World) (ls : List Loc) (h' : Hd) (ls' : List Loc) (w' : World) : Prop where
  row : OwnR B w' 51 19 h' (flat ls')
  own : Own B w' ls'
  same : er ls' = er ls
  keeps : Keeps none' w w'
  nodup : (h'.blk ++ blks ls').Nodup
theorem CopyD.later {B : Nat} {w w1 w2 : World} {ls ls' : List Loc} {h' : Hd} {X : Nat → Prop} (c : CopyD B w ls h' ls' w1) (k : Keeps X w1 w2) (hX : ∀ q, X q → q < B) (hB : ∀ q, X q → w.heap.size ≤ q) : CopyD B w ls h' ls' w2 := by
  refine ⟨c.row.keep k (fun x hx e => ?_), c.own.keep k (fun b hb e => ?_), c.same, c.keeps.trans k (fun i hi e => ?_), c.nodup⟩
  · have := (c.row.read.2 x hx).1
    have := hX _ e
    omega
  · have := (c.own.range b hb).1
    have := hX _ e
    omega
  · have := hB _ e
    omega
set_option maxRecDepth 100000 in
set_option maxHeartbeats 1600000 in
theorem copied18 (x y z : Int) (h : Hd) (ls : List Loc) (w : World) (D : DocV w h ls) :
    Calls Tryz.prog 27 #[docV x y z h] w fun e w' => ∃ h' ls', e = .returned (docV x y z h') ∧ CopyD (w.heap.size + 2) w ls h' ls' w' := by
  unfold docV
  have HD := Lib.hid D
  have C0 := Lib.hid ((Dc.new w x y z h).later ((Keeps.refl none' _).alloc (.cells #[.int .i64 0, .int .i64 0, .int .i64 0, .slice none 0 0] 26)))
  have K0 := Lib.hid (((Keeps.refl none' w).alloc (.cells #[.int .i64 x, .int .i64 y, .int .i64 z, .slice h.a h.n h.c] 26)).alloc (.cells #[.int .i64 0, .int .i64 0, .int .i64 0, .slice none 0 0] 26))
  have R0 := Lib.hid (heap_alloc_new (w.alloc (.cells #[.int .i64 x, .int .i64 y, .int .i64 z, .slice h.a h.n h.c] 26)) (.cells #[.int .i64 0, .int .i64 0, .int .i64 0, .slice none 0 0] 26))
  have hs : (w.alloc (.cells #[.int .i64 x, .int .i64 y, .int .i64 z, .slice h.a h.n h.c] 26)).heap.size = w.heap.size + 1 := by simp
  have Z0 := Lib.hid (show ((w.alloc (.cells #[.int .i64 x, .int .i64 y, .int .i64 z, .slice h.a h.n h.c] 26)).alloc (.cells #[.int .i64 0, .int .i64 0, .int .i64 0, .slice none 0 0] 26)).heap.size = w.heap.size + 2 from by simp)
  rw [hs] at R0
  clear hs D
  go_enter Tryz.func27, Tryz.ntmps27
  go_upto_region 1 with (fail)
  generalize (w.alloc (.cells #[.int .i64 x, .int .i64 y, .int .i64 z, .slice h.a h.n h.c] 26)).alloc (.cells #[.int .i64 0, .int .i64 0, .int .i64 0, .slice none 0 0] 26) = w1 at *
  obtain ⟨A, hA⟩ : ∃ A, A = w.heap.size := ⟨_, rfl⟩
  obtain ⟨R, hR⟩ : ∃ R, R = A + 1 := ⟨_, rfl⟩
  rw [← hA] at C0 Z0
  rw [← hA, ← hR] at R0
  rw [← hA, ← hR]
  have AA := Lib.hid (And.intro hA hR)
  clear hA hR
  have a3 := C0.out.c3
  go_upto_region 2 with (refine (copies_any ls h w1 (HD.out.row.keep K0.out (fun _ _ h => h)) (HD.out.rep.later K0.out)).mono ?_; rintro e w2 ⟨h', ls', rfl, hcp⟩; have CP := Lib.hid hcp; have C2 := Lib.hid (C0.out.later hcp.keeps); have R2 := Lib.hid ((hcp.keeps.later R (lt_of_block R0.out)).trans R0.out); have c3 := C2.out.c3; have f3 := C2.out.fr (i := 3); clear hcp a3)
  have C3 := Lib.hid (C2.out.s3 h')
  have K3 := Lib.hid (keeps_at w2 A 3 (.slice h'.a h'.n h'.c))
  have R3 := Lib.hid ((K3.out.block R (lt_of_block R2.out) (by have := AA.out; omega)).trans R2.out)
  clear c3 f3
  generalize w2.setCell ⟨A, 3, none⟩ (.slice h'.a h'.n h'.c) = w3 at *
  have c0 := C3.out.c0
  have c1 := C3.out.c1
  have c2 := C3.out.c2
  have c3 := C3.out.c3
  obtain ⟨⟨r0, r1, r2, r3⟩, rf⟩ := four_cells R3.out
  have f0 := rf 0
  have f1 := rf 1
  have f2 := rf 2
  have f3 := rf 3
  clear rf
  go_wp2_with fail
  refine bodyPost_ret (results_cell_row rfl _ _ R 26 _ (0, 0) _ rfl (four_set R3.out _ _ _ _) Tryz.underlying26 rfl (by kernel_rfl)) rfl ?_
  obtain ⟨a1, a2⟩ := AA.out
  have z0 := Z0.out
  refine ⟨h', ls', rfl, ?_⟩
  have d1 : CopyD (w.heap.size + 2) w ls h' ls' w2 := ⟨by rw [← a1, ← z0]; exact CP.out.row, by rw [← a1, ← z0]; exact CP.out.own, CP.out.same, K0.out.next CP.out.keeps, CP.out.nodup⟩
  have d2 := d1.later K3.out (fun q e => by have e' : q = A := e; omega) (fun q e => by have e' : q = A := e; omega)
  have d3 := d2.later (keeps_at w3 R 0 (.int .i64 x)) (fun q e => by have e' : q = R := e; omega) (fun q e => by have e' : q = R := e; omega)
  have d4 := d3.later (keeps_at _ R 1 (.int .i64 y)) (fun q e => by have e' : q = R := e; omega) (fun q e => by have e' : q = R := e; omega)
  have d5 := d4.later (keeps_at _ R 2 (.int .i64 z)) (fun q e => by have e' : q = R := e; omega) (fun q e => by have e' : q = R := e; omega)
  exact d5.later (keeps_at _ R 3 (.slice h'.a h'.n h'.c)) (fun q e => by have e' : q = R := e; omega) (fun q e => by have e' : q = R := e; omega)
set_option maxRecDepth 100000 in
set_option maxHeartbeats 1600000 in
theorem parent11 (x y z : Int) (h : Hd) (ls : List Loc) (id : Int) (w : World) (D : DocV w h ls) (hc : cnt ls ≤ 1099511627776) :
    Calls Tryz.prog 13 #[docV x y z h, .int .i64 id] w fun e w' => ∃ R : Nat, (match findP id (sps 0 R 3 0 h.b h.o 0 ls) with
      | some X => e = .returned (.tuple #[.int .i64 X.hid, .int .i64 (X.i : Int), .bool true])
      | none => e = .returned (.tuple #[.int .i64 0, .int .i64 0, .bool false])) ∧ Keeps none' w w' := by
  unfold docV
  have K0 := Lib.hid ((Keeps.refl none' w).alloc (.cells #[.int .i64 x, .int .i64 y, .int .i64 z, .slice h.a h.n h.c] 26))
  have C0 := Lib.hid (Dc.new w x y z h)
  have HD := Lib.hid D
  have HC := Lib.hid hc
  clear D hc
  cases hf : findP id (sps 0 w.heap.size 3 0 h.b h.o 0 ls) with
  | none =>
    have HF := Lib.hid hf
    clear hf
    go_enter Tryz.func13, Tryz.ntmps13
    go_upto_region 2 with (first
      | ((with_reducible refine (root_any w.heap.size _).mono ?_); rintro e w2 ⟨rfl, hk2⟩; have K2 := Lib.hid (K0.out.next hk2); have C2 := Lib.hid (C0.out.later hk2); clear hk2)
      | (refine (find_any 0 w.heap.size 3 0 h ls id w2 ((HD.out.later K2.out).home C2.out) (by rw [Nat.zero_add]; exact HC.out)).mono ?_; rintro e w3 ⟨hf3, hk3⟩; have hf4 := found_eq hf3; rw [HF.out] at hf4; simp only [foundV] at hf4; subst hf4; have K3 := Lib.hid (K2.out.next hk3); clear hk3 hf3))
    have S4 := Lib.hid (heap_alloc_new w3 (.cells #[.int .i64 0, .pointer none, .int .i64 0, .int .i64 0] 86))
    have K4 := Lib.hid (K3.out.alloc (.cells #[.int .i64 0, .pointer none, .int .i64 0, .int .i64 0] 86))
    obtain ⟨S, hS⟩ : ∃ S, S = w3.heap.size := ⟨_, rfl⟩
    rw [← hS] at S4
    rw [← hS]
    clear hS
    generalize w3.alloc (.cells #[.int .i64 0, .pointer none, .int .i64 0, .int .i64 0] 86) = w4 at *
    obtain ⟨⟨s0, s1, s2, s3⟩, rf⟩ := four_cells S4.out
    clear rf
    go_quiet (fail)
    go_wp2_with fail
    go_ret3
    exact ⟨w.heap.size, by rw [HF.out]; rfl, K4.out.drewN _⟩
  | some X =>
    have HF := Lib.hid hf
    clear hf
    go_enter Tryz.func13, Tryz.ntmps13
    go_upto_region 2 with (first
      | ((with_reducible refine (root_any w.heap.size _).mono ?_); rintro e w2 ⟨rfl, hk2⟩; have K2 := Lib.hid (K0.out.next hk2); have C2 := Lib.hid (C0.out.later hk2); clear hk2)
      | (refine (find_any 0 w.heap.size 3 0 h ls id w2 ((HD.out.later K2.out).home C2.out) (by rw [Nat.zero_add]; exact HC.out)).mono ?_; rintro e w3 ⟨hf3, hk3⟩; have hf4 := found_eq hf3; rw [HF.out] at hf4; simp only [foundV] at hf4; subst hf4; have K3 := Lib.hid (K2.out.next hk3); clear hk3 hf3))
    have S4 := Lib.hid (Sp.new w3 X.hid X.kb X.ko (X.dep : Int) (X.i : Int))
    have K4 := Lib.hid (K3.out.alloc (.cells #[.int .i64 X.hid, .pointer (some ⟨X.kb, X.ko, none⟩), .int .i64 (X.dep : Int), .int .i64 (X.i : Int)] 86))
    obtain ⟨S, hS⟩ : ∃ S, S = w3.heap.size := ⟨_, rfl⟩
    rw [← hS] at S4
    rw [← hS]
    clear hS
    generalize w3.alloc (.cells #[.int .i64 X.hid, .pointer (some ⟨X.kb, X.ko, none⟩), .int .i64 (X.dep : Int), .int .i64 (X.i : Int)] 86) = w4 at *
    have s0 := S4.out.c0
    have s3 := S4.out.c3
    go_quiet (fail)
    go_wp2_with fail
    go_ret3
    exact ⟨w.heap.size, by rw [HF.out]; rfl, K4.out.drewN _⟩
end Go.Proofs.YtfcpbpfemmdklaaGreat.Tr
