/- Find (12), the document's New (19, 20), a play's beginning (9). -/
import Derived.Test.YtfcpbpfemmdklaaZL
import Derived.Test.YtfcpbpfemmdklaaZP
namespace Go.Proofs.Ytfcpbpfemmdklaa
open Go.RowKit Go.Lib
set_option linter.unusedSimpArgs false
set_option linter.unusedVariables false

def zero48 : Array Value := #[.int .i64 0, .int .i64 0, .bool false, .int .i64 0, .int .i64 0, .int .i64 0, .int .i64 0, .slice none 0 0, .slice none 0 0, .int .i64 0, .int .i64 0, .int .i64 0, .int .i64 0, .int .i64 0, .int .i64 0, .bool false, .int .i64 0, .slice none 0 0, .slice none 0 0]
/-- What Find tells. -/
def FoundL (w : World) (r : Option At') (en : Ending) (w' : World) : Prop :=
  match r with
  | none => en = .returned (.tuple #[.agg zero48, .bool false]) ∧ Keeps none' w w'
  | some r => ∃ l' : Loc, en = .returned (.tuple #[.agg l'.cells.toArray, .bool true]) ∧ er [l'] = [.mk r.d r.kids] ∧ Own w.heap.size w' [l'] ∧ (blks [l']).Nodup ∧ Keeps none' w w'
theorem zero48_one : zero48.all (·.oneCell') = true := by kernel_rfl
set_option maxRecDepth 100000 in
set_option maxHeartbeats 1600000 in
theorem find12 (x y z : Int) (h : Hd) (ls : List Loc) (id : Int) (w : World) (D : DocV w h ls) (hc : cnt ls ≤ 1099511627776) :
    Calls Try.prog 12 #[docV x y z h, .int .i64 id] w fun en w' => FoundL w (fnd id (er ls)) en w' := by
  unfold docV
  have FD := find_doc id w.heap.size h ls
  have K0 := Lib.hid (((Keeps.refl none' w).alloc (.cells #[.int .i64 x, .int .i64 y, .int .i64 z, .slice h.a h.n h.c] 25)).alloc (.cells zero48 48))
  have C0 := Lib.hid ((Dc.new w x y z h).later ((Keeps.refl none' _).alloc (.cells zero48 48)))
  have F0 := Lib.hid (heap_alloc_new (w.alloc (.cells #[.int .i64 x, .int .i64 y, .int .i64 z, .slice h.a h.n h.c] 25)) (.cells zero48 48))
  have hs1 : (w.alloc (.cells #[.int .i64 x, .int .i64 y, .int .i64 z, .slice h.a h.n h.c] 25)).heap.size = w.heap.size + 1 := by simp
  rw [hs1] at F0
  clear hs1
  have HD := Lib.hid D
  have HC := Lib.hid hc
  clear D hc
  rcases FD with ⟨a, b⟩ | ⟨C, pre, l, post, h', a1, a2, a3, a4⟩
  · rw [b]
    have HF := Lib.hid a
    clear a b
    go_enter Try.func12, Try.ntmps12
    go_upto_region 1 with (fail)
    change Code.wp _ _ _ _ ((w.alloc (.cells #[.int .i64 x, .int .i64 y, .int .i64 z, .slice h.a h.n h.c] 25)).alloc (.cells zero48 48))
    generalize (w.alloc (.cells #[.int .i64 x, .int .i64 y, .int .i64 z, .slice h.a h.n h.c] 25)).alloc (.cells zero48 48) = w1 at *
    obtain ⟨F, hF⟩ : ∃ F, F = w.heap.size + 1 := ⟨_, rfl⟩
    rw [← hF] at F0
    rw [← hF]
    have FL := Lib.hid (show w.heap.size ≤ F from by omega)
    clear hF
    go_upto_region 2 with (first
      | ((with_reducible refine (root_any w.heap.size _).mono ?_); rintro e w2 ⟨rfl, hk2⟩; have K2 := Lib.hid (K0.out.next hk2); have C2 := Lib.hid (C0.out.later hk2); have F2 := Lib.hid ((hk2.later F (lt_of_block F0.out)).trans F0.out); clear hk2)
      | (refine (find_any 0 w.heap.size 3 0 h ls id w2 ((HD.out.later K2.out).home C2.out) (by rw [Nat.zero_add]; exact HC.out)).mono ?_; rintro e w3 ⟨hf3, hk3⟩; have hf4 := found_eq hf3; rw [HF.out] at hf4; simp only [foundV] at hf4; subst hf4; have K3 := Lib.hid (K2.out.next hk3); have F3 := Lib.hid ((hk3.later F (lt_of_block F2.out)).trans F2.out); clear hk3 hf3))
    have K4 := Lib.hid (K3.out.alloc (.cells #[.int .i64 0, .pointer none, .int .i64 0, .int .i64 0] 67))
    have F4 := Lib.hid ((((Keeps.refl none' w3).alloc (.cells #[.int .i64 0, .pointer none, .int .i64 0, .int .i64 0] 67)).later F (lt_of_block F3.out)).trans F3.out)
    clear K0 C0 F0 K2 C2 F2 K3 F3
    generalize w3.alloc (.cells #[.int .i64 0, .pointer none, .int .i64 0, .int .i64 0] 67) = w4 at *
    go_wp2_with (refine wpList_store_row rfl 48 _ _ rfl F zero48 rfl rfl 48 _ F4.out (by exact size48) (by rfl) zero48_one ?_)
    refine bodyPost_ret (results_cell_row2 rfl _ _ F 48 zero48 (0, 0) _ rfl (setRow_heap w4 F _ zero48 _ _ F4.out) Try.underlying48 rfl (by exact size48)) rfl ?_
    exact ⟨rfl, K4.out.setRow FL.out zero48⟩
  · rw [a2]
    have HF := Lib.hid a1
    have HE := Lib.hid (show er [l] = [.mk l.dat (er l.kids)] from by rw [er_cons, er])
    obtain ⟨X, hX⟩ : ∃ X, X = sptOf w.heap.size C h' pre.length l := ⟨_, rfl⟩
    have xl : X.l = l := by rw [hX]; rfl
    rw [← hX] at HF
    clear hX a1 a2 a3 a4
    subst xl
    have hv := sps_valid ((HD.out.later K0.out).home C0.out).low (by rw [Nat.zero_add]; exact HC.out) X (List.mem_of_find?_eq_some HF.out)
    obtain ⟨h2, ls2, off, v1, v2, v3, v4, v5⟩ := hv
    obtain ⟨a2, n2, c2⟩ := h2
    simp only at v3
    subst v3
    have V1 := Lib.hid v1.home
    have V2 := Lib.hid v2
    have V4 := Lib.hid v4
    clear v1 v2 v4 v5
    have LF := Lib.hid (show ∀ l : Loc, (Try.prog.info? 48).map (·.size) = some l.cells.toArray.size ∧ 19 = l.cells.toArray.size ∧ l.cells.toArray.all (·.oneCell') = true from fun l => by
      have e19 : l.cells.toArray.size = 19 := by rw [List.size_toArray, Loc.cells_length]
      refine ⟨by rw [e19]; exact size48, e19.symm, ?_⟩
      rw [Array.all_eq_true_iff_forall_mem]
      intro u hu
      exact l.cells_one u (by simpa using hu))
    have RL := Lib.hid (show (Try.prog.info? 48).map (·.size) = some X.l.cells.length from by rw [Loc.cells_length]; exact size48)
    go_enter Try.func12, Try.ntmps12
    go_upto_region 1 with (fail)
    change Code.wp _ _ _ _ ((w.alloc (.cells #[.int .i64 x, .int .i64 y, .int .i64 z, .slice h.a h.n h.c] 25)).alloc (.cells zero48 48))
    generalize (w.alloc (.cells #[.int .i64 x, .int .i64 y, .int .i64 z, .slice h.a h.n h.c] 25)).alloc (.cells zero48 48) = w1 at *
    obtain ⟨F, hF⟩ : ∃ F, F = w.heap.size + 1 := ⟨_, rfl⟩
    rw [← hF] at F0
    rw [← hF]
    have FL := Lib.hid (show w.heap.size ≤ F from by omega)
    clear hF
    go_upto_region 2 with (first
      | ((with_reducible refine (root_any w.heap.size _).mono ?_); rintro e w2 ⟨rfl, hk2⟩; have K12 := Lib.hid hk2; have K2 := Lib.hid (K0.out.next hk2); have C2 := Lib.hid (C0.out.later hk2); have F2 := Lib.hid ((hk2.later F (lt_of_block F0.out)).trans F0.out); clear hk2)
      | (refine (find_any 0 w.heap.size 3 0 h ls id w2 ((HD.out.later K2.out).home C2.out) (by rw [Nat.zero_add]; exact HC.out)).mono ?_; rintro e w3 ⟨hf3, hk3⟩; have hf4 := found_eq hf3; rw [HF.out] at hf4; simp only [foundV] at hf4; subst hf4; have K13 := Lib.hid (K12.out.next hk3); have K3 := Lib.hid (K2.out.next hk3); have F3 := Lib.hid ((hk3.later F (lt_of_block F2.out)).trans F2.out); clear hk3 hf3))
    have S4 := Lib.hid (Sp.new w3 X.hid X.kb X.ko (X.dep : Int) (X.i : Int))
    have K4 := Lib.hid (K3.out.alloc (.cells #[.int .i64 X.hid, .pointer (some ⟨X.kb, X.ko, none⟩), .int .i64 (X.dep : Int), .int .i64 (X.i : Int)] 67))
    have K14 := Lib.hid (K13.out.alloc (.cells #[.int .i64 X.hid, .pointer (some ⟨X.kb, X.ko, none⟩), .int .i64 (X.dep : Int), .int .i64 (X.i : Int)] 67))
    have F4 := Lib.hid ((((Keeps.refl none' w3).alloc (.cells #[.int .i64 X.hid, .pointer (some ⟨X.kb, X.ko, none⟩), .int .i64 (X.dep : Int), .int .i64 (X.i : Int)] 67)).later F (lt_of_block F3.out)).trans F3.out)
    obtain ⟨S, hS⟩ : ∃ S, S = w3.heap.size := ⟨_, rfl⟩
    rw [← hS] at S4
    rw [← hS]
    clear hS K0 C0 F0 K12 K2 C2 F2 K13 K3 F3
    generalize w3.alloc (.cells #[.int .i64 X.hid, .pointer (some ⟨X.kb, X.ko, none⟩), .int .i64 (X.dep : Int), .int .i64 (X.i : Int)] 67) = w4 at *
    have s0 := S4.out.c0
    have s1 := S4.out.c1
    have s2 := S4.out.c2
    have s3 := S4.out.c3
    have LA := Lib.hid (layer_any X.hid X.kb X.ko (X.dep : Int) _ ls2 X.i X.l X.b off w4 (V1.out.later K14.out) rfl V2.out)
    obtain ⟨O8, hO8⟩ : ∃ O8, O8 = off + X.i * 19 := ⟨_, rfl⟩
    rw [← hO8] at LA
    have RG := Lib.hid (show ∀ w', Keeps none' w4 w' → w'.rangeAt X.b O8 X.l.cells from fun w' k => by rw [hO8]; exact rows_at V1.out.row (K14.out.next k) V2.out)
    have CP := Lib.hid (show ∀ w', Keeps none' w4 w' → Rep w' [X.l] from fun w' k => (All.one V1.out.rep V2.out).imp fun _ _ _ _ _ o => o.keep (K14.out.next k) (fun _ _ h => h))
    have CY := Lib.hid (show ∀ w', Keeps none' w4 w' → Calls Try.prog 24 #[.agg X.l.cells.toArray] w' (fun e w'' => ∃ l', e = .returned (.agg l'.cells.toArray) ∧ CopyOne w' X.l l' w'') from fun w' k => copied_any X.l w' (CP.out w' k))
    clear hO8
    go_wp2_with (first
      | ((with_reducible refine LA.out.mono ?_); rintro e w5 ⟨rfl, hk⟩; have K5 := Lib.hid hk; clear hk)
      | (refine wpList_load_mid rfl 48 _ rfl X.b O8 rfl X.l.cells _ (RG.out w5 K5.out) Try.underlying48 rfl RL.out ?_)
      | ((with_reducible refine (CY.out w5 K5.out).mono ?_); rintro e w6 ⟨l', rfl, hcp⟩; have HCP := Lib.hid hcp; have F6 := Lib.hid (((K5.out.next hcp.keeps).later F (lt_of_block F4.out)).trans F4.out); clear hcp)
      | (refine wpList_store_row rfl 48 _ _ rfl F l'.cells.toArray rfl rfl 48 _ F6.out (LF.out l').1 (by exact (LF.out l').2.1) (LF.out l').2.2 ?_))
    refine bodyPost_ret (results_cell_row2 rfl _ _ F 48 l'.cells.toArray (0, 0) _ rfl (setRow_heap w6 F _ l'.cells.toArray _ _ F6.out) Try.underlying48 rfl (LF.out l').1) rfl ?_
    have kk : Keeps none' w w6 := (K4.out.next K5.out).next HCP.out.keeps
    refine ⟨l', rfl, by rw [HCP.out.same, HE.out], ?_, HCP.out.nodup, kk.setRow FL.out _⟩
    refine (HCP.out.own.keep (keeps_row w6 F _) (fun b hb e => ?_)).low (K4.out.next K5.out).size
    have e' : b = F := e
    have h1 := (HCP.out.own.range b hb).1
    have h2 := K5.out.size
    have h3 := lt_of_block F4.out
    omega
theorem sized20 (x y : Int) (w : World) (hx : 1 ≤ x ∧ x ≤ 24) (hy : 1 ≤ y ∧ y ≤ 24) : Calls Try.prog 20 #[.int .i64 x, .int .i64 y] w fun en w' => en = .returned (.bool true) ∧ w = w' := by
  have d1 : decide (x ≥ 1) = true := by simp; omega
  have d2 : decide (y ≥ 1) = true := by simp; omega
  have d3 : decide (x ≤ 32768) = true := by simp; omega
  have d4 : decide (y ≤ 32768) = true := by simp; omega
  have d7 : decide (1 ≤ x) = true := by simp; omega
  have d8 : decide (1 ≤ y) = true := by simp; omega
  have hm : x * y ≤ 576 := by
    have := Int.mul_le_mul hx.2 hy.2 (by omega) (by omega)
    omega
  have h0 : 0 ≤ x * y := Int.mul_nonneg (by omega) (by omega)
  obtain ⟨m, hm'⟩ : ∃ m, m = x * y := ⟨_, rfl⟩
  rw [← hm'] at hm h0
  have d5 : wrap64 (x * y) = m := by rw [← hm']; exact wrap64_id _ (by omega) (by omega)
  have d6 : decide (m ≤ 4194304) = true := by simp; omega
  clear hx hy hm h0 hm'
  go_enter Try.func20, Try.ntmps20
  go_wp2_with fail
  go_ret
  exact ⟨rfl, rfl⟩
def docR (x y z : Int) : Value := .agg #[.int .i64 x, .int .i64 y, .int .i64 z, .slice none 0 0]
set_option maxRecDepth 100000 in
set_option maxHeartbeats 800000 in
theorem new19 (x y : Int) (w : World) (hx : 1 ≤ x ∧ x ≤ 24) (hy : 1 ≤ y ∧ y ≤ 24) : Calls Try.prog 19 #[.int .i64 x, .int .i64 y] w fun en w' => en = .returned (.tuple #[docR x y 1, .int .i64 0]) ∧ Keeps none' w w' := by
  have CS := Lib.hid (fun w' => sized20 x y w' hx hy)
  have R0 := Lib.hid (heap_alloc_new w (.cells #[.int .i64 0, .int .i64 0, .int .i64 0, .slice none 0 0] 40))
  have K0 := Lib.hid ((Keeps.refl none' w).alloc (.cells #[.int .i64 0, .int .i64 0, .int .i64 0, .slice none 0 0] 40))
  obtain ⟨Z, hZ⟩ : ∃ Z, Z = w.heap.size := ⟨_, rfl⟩
  have ZS := Lib.hid hZ
  rw [← hZ] at R0
  obtain ⟨⟨r0, r1, r2, r3⟩, rf⟩ := four_cells R0.out
  have f0 := rf 0
  have f1 := rf 1
  have f2 := rf 2
  have f3 := rf 3
  clear rf hx hy
  go_enter Try.func19, Try.ntmps19
  go_upto_region 1 with (fail)
  rw [← hZ]
  clear hZ
  generalize w.alloc (.cells #[.int .i64 0, .int .i64 0, .int .i64 0, .slice none 0 0] 40) = w1 at *
  go_wp2_with ((with_reducible refine (CS.out w1).mono ?_); rintro e w2 ⟨rfl, hw⟩; subst hw)
  refine bodyPost_ret (results_cell_row2 rfl _ _ Z 40 _ (0, 0) _ rfl (four_set R0.out _ _ _ _) Try.underlying40 rfl (by kernel_rfl)) rfl ?_
  exact ⟨rfl, keeps_set4 K0.out (by rw [ZS.out]; exact Nat.le_refl _) _ _ _ _⟩
theorem area_small (x y : Int) (hx : 1 ≤ x ∧ x ≤ 24) (hy : 1 ≤ y ∧ y ≤ 24) : areaP x y = true := by
  have hm : x * y ≤ 576 := by
    have := Int.mul_le_mul hx.2 hy.2 (by omega) (by omega)
    omega
  simp only [areaP, sideP, Bool.and_eq_true, decide_eq_true_eq]
  exact ⟨⟨by omega, by omega⟩, ⟨by omega, by omega⟩, by omega⟩
theorem results_cells3 {P : Program} {fn : Func} {p q u : Tmp} {ty ty' : TypeId} (h : fn.results = #[.cell p ty, .cell q ty', .tmp u]) (tmps : Array Value) (w : World) (g g' : Nat) (t t' : TypeId) (cs cs' : Array Value) (fr fr' : Nat × Nat) (d d' : TypeDesc)
    (hp : tmps.getD p undef = .pointer (some ⟨g, 0, none⟩)) (hq : tmps.getD q undef = .pointer (some ⟨g', 0, none⟩)) (hg : w.heap[g]? = some (.cells cs t fr)) (hg' : w.heap[g']? = some (.cells cs' t' fr'))
    (hu : P.underlying ty = some d) (hd : (match d with | .struct _ | .array _ _ => true | _ => false) = true) (hi : (P.info? ty).map (·.size) = some cs.size)
    (hu' : P.underlying ty' = some d') (hd' : (match d' with | .struct _ | .array _ _ => true | _ => false) = true) (hi' : (P.info? ty').map (·.size) = some cs'.size) :
    (results fn tmps).run P w = .ok (.tuple #[.agg cs, .agg cs', tmps.getD u undef]) w := by
  have hp' : tmps[p]?.getD undef = .pointer (some ⟨g, 0, none⟩) := by simpa using hp
  have hq' : tmps[q]?.getD undef = .pointer (some ⟨g', 0, none⟩) := by simpa using hq
  simp [results, h, hp', hq', asAddr, run_loadVar_row w g t ty cs fr d hg hu hd hi, run_loadVar_row w g' t' ty' cs' fr' d' hg' hu' hd' hi']
set_option maxRecDepth 100000 in
set_option maxHeartbeats 1600000 in
theorem begun9 (x y : Int) (w : World) (hx : 1 ≤ x ∧ x ≤ 24) (hy : 1 ≤ y ∧ y ≤ 24) : Calls Try.prog 9 #[.int .i64 x, .int .i64 y] w fun en w' => en = .returned (.tuple #[docV x y 1 Hd.nil, docR x y 1, .bool true]) ∧ Keeps none' w w' := by
  have N1 := fun w' => new7 x y w'
  rw [area_small x y hx hy, if_pos rfl] at N1
  simp only [docV, Hd.nil] at N1
  have HN := Lib.hid N1
  have M1 := fun w' => new19 x y w' hx hy
  simp only [docR] at M1
  have HM := Lib.hid M1
  have d1 : decide (x ≤ 24) = true := by simp; omega
  have d2 : decide (y ≤ 24) = true := by simp; omega
  have hx1 := hx.1
  clear N1 M1 hx hy
  have A0 := Lib.hid ((show ((w.alloc (.cells #[.int .i64 0, .int .i64 0, .int .i64 0, .slice none 0 0] 25)).alloc (.cells #[.int .i64 0, .int .i64 0, .int .i64 0, .slice none 0 0] 40)).heap[w.heap.size]? = some (.cells #[.int .i64 0, .int .i64 0, .int .i64 0, .slice none 0 0] 25 (0, 0)) from (((Keeps.refl none' (w.alloc (.cells #[.int .i64 0, .int .i64 0, .int .i64 0, .slice none 0 0] 25))).alloc _).later _ (lt_of_block (heap_alloc_new _ _))).trans (heap_alloc_new _ _)))
  have B0 := Lib.hid (heap_alloc_new (w.alloc (.cells #[.int .i64 0, .int .i64 0, .int .i64 0, .slice none 0 0] 25)) (.cells #[.int .i64 0, .int .i64 0, .int .i64 0, .slice none 0 0] 40))
  have K0 := Lib.hid (((Keeps.refl none' w).alloc (.cells #[.int .i64 0, .int .i64 0, .int .i64 0, .slice none 0 0] 25)).alloc (.cells #[.int .i64 0, .int .i64 0, .int .i64 0, .slice none 0 0] 40))
  have hs1 : (w.alloc (.cells #[.int .i64 0, .int .i64 0, .int .i64 0, .slice none 0 0] 25)).heap.size = w.heap.size + 1 := by simp
  rw [hs1] at B0
  clear hs1
  obtain ⟨A, hA⟩ : ∃ A, A = w.heap.size := ⟨_, rfl⟩
  obtain ⟨B, hB⟩ : ∃ B, B = A + 1 := ⟨_, rfl⟩
  rw [← hA] at A0 B0
  rw [← hB] at B0
  have nab : A ≠ B := by omega
  have nba : B ≠ A := by omega
  have AB := Lib.hid (And.intro (show w.heap.size ≤ A from by omega) (show w.heap.size ≤ B from by omega))
  go_enter Try.func9, Try.ntmps9
  go_upto_region 1 with (fail)
  rw [← hA, ← hB]
  clear hA hB
  generalize (w.alloc (.cells #[.int .i64 0, .int .i64 0, .int .i64 0, .slice none 0 0] 25)).alloc (.cells #[.int .i64 0, .int .i64 0, .int .i64 0, .slice none 0 0] 40) = w1 at *
  go_upto_region 2 with ((with_reducible refine (HN.out w1).mono ?_); rintro en w2 ⟨rfl, hk⟩; have K2 := Lib.hid hk; clear hk)
  have C3 := Lib.hid (heap_alloc_new w2 (.cells #[.int .i64 x, .int .i64 y, .int .i64 1, .slice none 0 0] 25))
  have K3 := Lib.hid (K2.out.alloc (.cells #[.int .i64 x, .int .i64 y, .int .i64 1, .slice none 0 0] 25))
  obtain ⟨C, hC⟩ : ∃ C, C = w2.heap.size := ⟨_, rfl⟩
  rw [← hC] at C3
  rw [← hC]
  clear hC K2
  generalize w2.alloc (.cells #[.int .i64 x, .int .i64 y, .int .i64 1, .slice none 0 0] 25) = w3 at *
  go_upto_region 3 with ((with_reducible refine (HM.out w3).mono ?_); rintro en w4 ⟨rfl, hk⟩; have K4 := Lib.hid hk; clear hk)
  have D5 := Lib.hid (heap_alloc_new w4 (.cells #[.int .i64 x, .int .i64 y, .int .i64 1, .slice none 0 0] 40))
  have k5 := K4.out.alloc (.cells #[.int .i64 x, .int .i64 y, .int .i64 1, .slice none 0 0] 40)
  have C5 := Lib.hid ((k5.later C (lt_of_block C3.out)).trans C3.out)
  have A5 := Lib.hid (((K3.out.next k5).later A (lt_of_block A0.out)).trans A0.out)
  have B5 := Lib.hid (((K3.out.next k5).later B (lt_of_block B0.out)).trans B0.out)
  have K5 := Lib.hid (K0.out.next (K3.out.next k5))
  obtain ⟨D, hD⟩ : ∃ D, D = w4.heap.size := ⟨_, rfl⟩
  rw [← hD] at D5
  rw [← hD]
  clear hD k5 K4 K3 C3 A0 B0 K0
  generalize w4.alloc (.cells #[.int .i64 x, .int .i64 y, .int .i64 1, .slice none 0 0] 40) = w5 at *
  obtain ⟨⟨a0, a1, a2, a3⟩, af⟩ := four_cells A5.out
  obtain ⟨⟨b0, b1, b2, b3⟩, bf⟩ := four_cells B5.out
  obtain ⟨⟨c0, c1, c2, c3⟩, cf⟩ := four_cells C5.out
  obtain ⟨⟨e0, e1, e2, e3⟩, ef⟩ := four_cells D5.out
  have nac : A ≠ C := by
    rintro rfl
    have h1 := A5.out.symm.trans C5.out
    simp at h1
    try omega
  have nbc : B ≠ C := by
    rintro rfl
    have := B5.out.symm.trans C5.out
    simp at this
  have nad : A ≠ D := by
    rintro rfl
    have := A5.out.symm.trans D5.out
    simp at this
  have nbd : B ≠ D := by
    rintro rfl
    have h1 := B5.out.symm.trans D5.out
    simp at h1
    try omega
  have g0 := af 0
  have g1 := af 1
  have g2 := af 2
  have g3 := af 3
  have h0 := bf 0
  have h1 := bf 1
  have h2 := bf 2
  have h3 := bf 3
  clear af bf cf ef
  clear hx1
  go_region
  all_goals go_wp2_with fail
  have hA := four_set A5.out (.int .i64 x) (.int .i64 y) (.int .i64 1) (.slice none 0 0)
  have q1 := keeps_at4 w5 A (.int .i64 x) (.int .i64 y) (.int .i64 1) (.slice none 0 0)
  have k1 := keeps_set4 (Z := A) K5.out AB.out.1 (.int .i64 x) (.int .i64 y) (.int .i64 1) (.slice none 0 0)
  have hB1 := (q1.block B (lt_of_block B5.out) (fun e => nba e)).trans B5.out
  have hB := four_set hB1 (.int .i64 x) (.int .i64 y) (.int .i64 1) (.slice none 0 0)
  have q2 := keeps_at4 ((((w5.setCell ⟨A, 0, none⟩ (.int .i64 x)).setCell ⟨A, 1, none⟩ (.int .i64 y)).setCell ⟨A, 2, none⟩ (.int .i64 1)).setCell ⟨A, 3, none⟩ (.slice none 0 0)) B (.int .i64 x) (.int .i64 y) (.int .i64 1) (.slice none 0 0)
  have k2 := keeps_set4 (Z := B) k1 AB.out.2 (.int .i64 x) (.int .i64 y) (.int .i64 1) (.slice none 0 0)
  have hA2 := (q2.block A (lt_of_block hA) (fun e => nab e)).trans hA
  clear q1 k1 hB1 q2 hA A5 B5 C5 D5 K5 a0 a1 a2 a3 b0 b1 b2 b3 c0 c1 c2 c3 e0 e1 e2 e3 g0 g1 g2 g3 h0 h1 h2 h3 nab nba nac nbc nad nbd
  generalize ((((((((w5.setCell ⟨A, 0, none⟩ (.int .i64 x)).setCell ⟨A, 1, none⟩ (.int .i64 y)).setCell ⟨A, 2, none⟩ (.int .i64 1)).setCell ⟨A, 3, none⟩ (.slice none 0 0)).setCell ⟨B, 0, none⟩ (.int .i64 x)).setCell ⟨B, 1, none⟩ (.int .i64 y)).setCell ⟨B, 2, none⟩ (.int .i64 1)).setCell ⟨B, 3, none⟩ (.slice none 0 0)) = W2 at hB hA2 k2 ⊢
  have gA : W2.drew.heap[A]? = some (.cells #[.int .i64 x, .int .i64 y, .int .i64 1, .slice none 0 0] 25 (0, 0)) := hA2
  have gB : W2.drew.heap[B]? = some (.cells #[.int .i64 x, .int .i64 y, .int .i64 1, .slice none 0 0] 40 (0, 0)) := hB
  have gk := k2.drew
  clear hA2 hB k2
  generalize W2.drew = W3 at *
  refine bodyPost_ret (results_cells3 rfl _ _ A B 25 40 _ _ (0, 0) (0, 0) _ _ rfl rfl gA gB Try.underlying25 rfl (by kernel_rfl) Try.underlying40 rfl (by kernel_rfl)) rfl ?_
  exact ⟨rfl, gk⟩
end Go.Proofs.Ytfcpbpfemmdklaa
