/- Texts of a layer, one behind the other. -/
import Derived.Test.YtfcpbpfemmdklaaGreatMAc
/- A layer taken out of a row. -/
namespace Go.Proofs.YtfcpbpfemmdklaaGreat.Tr
open Go.RowKit Go.Lib
set_option linter.unusedSimpArgs false
set_option linter.unusedVariables false

abbrev Z48 : Obj := .cells #[.int .i64 0, .int .i64 0, .bool false, .int .i64 0, .int .i64 0, .int .i64 0, .int .i64 0, .slice none 0 0, .slice none 0 0, .int .i64 0, .int .i64 0, .int .i64 0, .int .i64 0, .int .i64 0, .int .i64 0, .bool false, .int .i64 0, .slice none 0 0, .slice none 0 0] 51
theorem keeps_weak {X Y : Nat → Prop} {w w' : World} (h : Keeps X w w') (hS : ∀ q, q < w.heap.size → X q → Y q) : Keeps Y w w' :=
  ⟨h.os, h.tape, h.output, h.size, fun q hq hn => h.block q hq (fun s => hn (hS q hq s))⟩
theorem keeps_heap {w w' : World} (hh : w'.heap = w.heap) (ho : w'.os = w.os) (ht : w'.tape = w.tape) (hu : w'.output = w.output) : Keeps none' w w' :=
  ⟨ho, ht, hu, by rw [hh]; exact Nat.le_refl _, fun q _ _ => by rw [hh]⟩
set_option maxRecDepth 100000 in
set_option maxHeartbeats 1600000 in
theorem take_any (B : Nat) (id : Int) (kb ko : Nat) (dep : Int) (g n c : Nat) (ls : List Loc) (i : Nat) (l : Loc) (w : World) (H : Home w kb ko ⟨some ⟨g, 0, none⟩, n, c⟩ ls) (hf : w.frozen? ⟨kb, ko, none⟩ = false) (O : OwnR B w 51 19 ⟨some ⟨g, 0, none⟩, n, c⟩ (flat ls)) (hl : ls[i]? = some l) (hne : kb ≠ g) :
    Calls Tryz.prog 77 #[.agg #[.int .i64 id, .pointer (some ⟨kb, ko, none⟩), .int .i64 dep, .int .i64 (i : Int)]] w fun e w' => e = .returned (.agg l.cells.toArray) ∧ Took B w kb ko g (n - 1) c (flat (ls.eraseIdx i)) w' := by
  have hn9 : n ≤ 536870912 := O.2.2
  have hin : i < n := by
    have h1 := (List.getElem?_eq_some_iff.1 hl).1
    have h2 : n = ls.length := H.len
    omega
  have hkb : kb < w.heap.size := World.block_lt_of_cell? w _ H.ptr
  have hgw : g < w.heap.size := (H.row.1.at' _ rfl).2.1
  have RG : w.rangeAt g (i * 19) l.cells := fun j u hj => by
    obtain ⟨b', o', e, hc⟩ := H.lies (by have := H.len; show 0 < _; have h1 := (List.getElem?_eq_some_iff.1 hl).1; omega)
    simp only [Option.some.injEq, Addr.mk.injEq] at e
    obtain ⟨rfl, rfl, -⟩ := e
    have := hc i l hl j u hj
    rw [Nat.zero_add] at this
    exact this
  have SZL : (Tryz.prog.info? 51).map (·.size) = some l.cells.length := by rw [Loc.cells_length]; exact size48
  have SZA : (Tryz.prog.info? 51).map (·.size) = some l.cells.toArray.size := by rw [List.size_toArray, Loc.cells_length]; exact size48
  have SZB : 19 = l.cells.toArray.size := by rw [List.size_toArray, Loc.cells_length]
  have ALLL : l.cells.toArray.all (·.oneCell') = true := by
    rw [Array.all_eq_true_iff_forall_mem]
    intro u hu
    exact l.cells_one u (by simpa using hu)
  have LF := Lib.hid (And.intro SZL (And.intro SZA (And.intro SZB ALLL)))
  clear SZL SZA SZB ALLL
  obtain ⟨S, hS⟩ : ∃ S, S = w.heap.size := ⟨_, rfl⟩
  obtain ⟨R, hR⟩ : ∃ R, R = S + 1 := ⟨_, rfl⟩
  have S0 := Lib.hid ((Sp.new w id kb ko dep i).later ((Keeps.refl none' _).alloc (.cells zero19.toArray 51)))
  have R0 := Lib.hid (heap_alloc_new (w.alloc (.cells #[.int .i64 id, .pointer (some ⟨kb, ko, none⟩), .int .i64 dep, .int .i64 (i : Int)] 86)) (.cells zero19.toArray 51))
  have K0 := Lib.hid (((Keeps.refl none' w).alloc (.cells #[.int .i64 id, .pointer (some ⟨kb, ko, none⟩), .int .i64 dep, .int .i64 (i : Int)] 86)).alloc (.cells zero19.toArray 51))
  have hs : (w.alloc (.cells #[.int .i64 id, .pointer (some ⟨kb, ko, none⟩), .int .i64 dep, .int .i64 (i : Int)] 86)).heap.size = w.heap.size + 1 := by simp
  have Z0 := Lib.hid (show ((w.alloc (.cells #[.int .i64 id, .pointer (some ⟨kb, ko, none⟩), .int .i64 dep, .int .i64 (i : Int)] 86)).alloc (.cells zero19.toArray 51)).heap.size = w.heap.size + 2 from by simp)
  rw [hs, ← hS, ← hR] at R0
  rw [← hS] at S0
  have la := (fun w' (k : Keeps none' w w') => layer_any id kb ko dep _ ls i l g 0 w' (H.later k) rfl hl)
  rw [Nat.zero_add] at la
  have LA := Lib.hid la
  clear la
  have HP := Lib.hid H.ptr
  have HF := Lib.hid hf
  have HO := Lib.hid O
  have BD := Lib.hid (And.intro hin (And.intro hn9 (And.intro hkb (And.intro hgw (And.intro hne (And.intro hS hR))))))
  have HRG := Lib.hid RG
  clear RG hf O hl hs H hne hkb hgw
  unfold zero19 at S0 R0 K0 Z0
  go_enter Tryz.func77, Tryz.ntmps77
  go_upto_region 1 with (fail)
  rw [← hS, ← hR]
  clear hS hR hin hn9
  generalize ((w.alloc (.cells #[.int .i64 id, .pointer (some ⟨kb, ko, none⟩), .int .i64 dep, .int .i64 (i : Int)] 86)).alloc _) = w1 at *
  have s0 := S0.out.c0
  have s1 := S0.out.c1
  have s2 := S0.out.c2
  have s3 := S0.out.c3
  have LB0 := Lib.hid (fun w' : World => heap_alloc_new w' Z48)
  go_upto_region 2 with (first
    | (refine (LA.out _ K0.out).mono ?_; rintro e w2 ⟨rfl, hk2⟩; have K2 := Lib.hid (K0.out.next hk2); have K12 := Lib.hid hk2; clear hk2)
    | (refine wpList_load_mid rfl 51 _ rfl g (i * 19) rfl l.cells _ (fun j u hj => K2.out.cell (HRG.out j u hj)) Tryz.underlying51 rfl LF.out.1 ?_)
    | (refine wpList_store_row rfl 51 _ _ rfl w2.heap.size l.cells.toArray rfl rfl 51 _ (heap_alloc_new _ _) LF.out.2.1 (by exact LF.out.2.2.1) LF.out.2.2.2 ?_))
  obtain ⟨L, hL⟩ : ∃ L, L = w2.heap.size := ⟨_, rfl⟩
  have LB := Lib.hid (setRow_heap (w2.alloc Z48) w2.heap.size _ l.cells.toArray _ _ (heap_alloc_new w2 Z48))
  have K3 := Lib.hid ((K2.out.alloc Z48).setRow (R := w2.heap.size) K2.out.size l.cells.toArray)
  have K13 := Lib.hid ((K12.out.alloc Z48).setRow (R := w2.heap.size) K12.out.size l.cells.toArray)
  have LL := Lib.hid (show L < ((w2.alloc Z48).setRow w2.heap.size l.cells.toArray).heap.size ∧ w.heap.size + 2 ≤ L from ⟨by rw [hL]; exact lt_of_block LB.out, by rw [hL]; have h1 := K12.out.size; have h2 := Z0.out; omega⟩)
  rw [← hL] at LB K3 K13 LL
  rw [← hL]
  unfold Z48 at LB K3 K13 LL
  dsimp only [Act.put]
  generalize (w2.alloc (.cells _ 51)).setRow L l.cells.toArray = w3 at *
  have hS' : S < w1.heap.size := S0.out.lt
  have hR' : R < w1.heap.size := lt_of_block R0.out
  have S3 := Lib.hid (S0.out.later K13.out)
  have R3 := Lib.hid ((K13.out.later R hR').trans R0.out)
  have hb0 : (0 : Int) ≤ (i : Int) := by omega
  have hb1 : (i : Int) ≤ 536870912 := by have := BD.out; omega
  have DI : ∀ w' : World, w'.heap = w3.heap → w'.os = w3.os → w'.tape = w3.tape → w'.output = w3.output → Calls Tryz.prog 104 #[.slice (some ⟨g, 0, none⟩) n c,  .int .i64 (i : Int), .int .i64 (IntKind.i64.wrap ((i : Int) + 1))] w' fun e w'' =>
      e = .returned (.slice (some ⟨g, 0, none⟩) (n - 1) c) ∧ w''.cell? ⟨S, 1, none⟩ = some (.pointer (some ⟨kb, ko, none⟩)) ∧ w''.frozen? ⟨kb, ko, none⟩ = false ∧ w''.cell? ⟨kb, ko, none⟩ = some (.slice (some ⟨g, 0, none⟩) n c) ∧ OwnR B w'' 51 19 ⟨some ⟨g, 0, none⟩, n - 1, c⟩ (flat (ls.eraseIdx i)) ∧ Keeps (fun q => q = g) w3 w'' := by
    intro w' hh ho ht hu
    have k1 := keeps_heap hh ho ht hu
    rw [wrap_i64 ((i : Int) + 1) (by omega) (by omega)]
    obtain ⟨b1, b2, b3, b4, b5, b6, b7⟩ := BD.out
    refine (delete_layers B g n c i ls w' (HO.out.keep (K3.out.next k1) (fun _ _ h => h)) b1).mono ?_
    rintro e w'' ⟨rfl, o, k⟩
    refine ⟨rfl, k.cellS (by show ¬ S = g; omega) (k1.cell S3.out.c1), k.frozenS (by show ¬ kb = g; omega) (by show kb < _; have := (K3.out.next k1).size; omega) ((K3.out.next k1).frozenS (fun h => h) (by show kb < _; omega) HF.out), k.cellS (by show ¬ kb = g; omega) ((K3.out.next k1).cell HP.out), o, (keeps_weak k1 (fun _ _ h => h.elim)).trans k (fun _ _ h => h)⟩
  have DH := Lib.hid DI
  clear DI s0 s1 s2 s3 LA
  have s1 := S3.out.c1
  have s3 := S3.out.c3
  have hp := K3.out.cell HP.out
  clear hL
  go_cut [] from 8 (fun w' => Took B w kb ko g (n - 1) c (flat (ls.eraseIdx i)) w' ∧ Keeps (fun q => q = g ∨ q = kb) w3 w')
  case first =>
    go_region_law (go_simp; refine (DH.out w3.drew rfl rfl rfl rfl).mono ?_; rintro e w9 ⟨rfl, k0, k1, k2, ko9, kk⟩)
    all_goals
      go_wp2_with fail
      go_meet
      case rel =>
        obtain ⟨b1, b2, b3, b4, b5, b6, b7⟩ := BD.out
        exact ⟨Took.mk1 K3.out ko9 kk b5 b3, (keeps_weak kk (fun _ _ h => .inl h)).setCell (fun _ => .inr rfl) _⟩
  case rest =>
    obtain ⟨T, KK⟩ := hcut
    obtain ⟨b1, b2, b3, b4, b5, b6, b7⟩ := BD.out
    have LB4 : wc.heap[L]? = some (.cells l.cells.toArray 51 (0, 0)) := (KK.block L LL.out.1 (by have := LL.out.2; omega)).trans LB.out
    have R4 := (KK.block R (by have := K13.out.size; omega) (by omega)).trans R3.out
    go_wp2_with (first
      | (refine wpList_load_row rfl 51 _ rfl L rfl 51 l.cells.toArray (0, 0) _ LB4 Tryz.underlying51 rfl LF.out.2.1 ?_)
      | (refine wpList_store_row rfl 51 _ _ rfl R l.cells.toArray rfl rfl 51 _ R4 LF.out.2.1 (by exact LF.out.2.2.1) LF.out.2.2.2 ?_))
    refine bodyPost_ret (results_cell_row rfl _ _ R 51 l.cells.toArray (0, 0) _ rfl (setRow_heap _ _ _ _ _ _ R4) Tryz.underlying51 rfl LF.out.2.1) rfl ?_
    exact ⟨rfl, T.later b4 b3 (keeps_weak (keeps_row wc R l.cells.toArray) (fun q _ e => by have e' : q = R := e; omega))⟩
end Go.Proofs.YtfcpbpfemmdklaaGreat.Tr
