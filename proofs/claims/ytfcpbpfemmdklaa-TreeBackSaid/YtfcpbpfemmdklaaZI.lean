/- A row of pixels painted (56). -/
import Derived.Test.YtfcpbpfemmdklaaZH
namespace Go.Proofs.Ytfcpbpfemmdklaa
open Go.RowKit Go.Lib
set_option linter.unusedSimpArgs false
set_option linter.unusedVariables false

/-- One pixel painted. -/
def pone (W y x : Int) (i : Nat) (v : Int) (p : List Int) : List Int :=
  if (0 ≤ x + (i : Int) ∧ x + (i : Int) < W) ∧ (0 ≤ y * W + x + (i : Int) ∧ y * W + x + (i : Int) < (p.length : Int)) then p.set (y * W + x + (i : Int)).toNat v else p
/-- A row painted. -/
def prow (W y x : Int) : Nat → List Int → List Int → List Int
  | _, [], p => p
  | i, v :: vs, p => prow W y x (i + 1) vs (pone W y x i v p)
theorem pone_len (W y x : Int) (i : Nat) (v : Int) (p : List Int) : (pone W y x i v p).length = p.length := by
  unfold pone
  split
  · rw [List.length_set]
  · rfl
theorem prow_len (W y x : Int) : ∀ (vs : List Int) (i : Nat) (p : List Int), (prow W y x i vs p).length = p.length
  | [], i, p => rfl
  | v :: vs, i, p => by rw [prow, prow_len W y x vs, pone_len]
theorem prow_snoc (W y x : Int) : ∀ (vs : List Int) (i : Nat) (p : List Int) (v : Int), prow W y x i (vs ++ [v]) p = pone W y x (i + vs.length) v (prow W y x i vs p)
  | [], i, p, v => rfl
  | u :: vs, i, p, v => by
    rw [List.cons_append, prow, prow_snoc W y x vs, prow, List.length_cons, show i + 1 + vs.length = i + (vs.length + 1) by omega]
theorem OwnR.setI {B : Nat} {w w' : World} {h : Hd} {vs : List Value} {i : Nat} {v : Value} (o : OwnR B w 3 1 h vs) (hi : i < vs.length) (h1 : v.oneCell' = true)
    (hk : w'.heap[h.b]? = (w.setCell ⟨h.b, h.o + i, none⟩ v).heap[h.b]?) : OwnR B w' 3 1 h (vs.set i v) := by
  have hl := o.1.1
  refine ⟨⟨by rw [List.length_set]; exact hl, ?_⟩, fun u hu => ?_, o.2.2⟩
  · obtain ⟨a, n, c⟩ := h
    rcases o.1.2 with ⟨-, e0⟩ | ⟨g, c', cur, e, hB, hh, p1, p2, p3, p4⟩
    · have e0' : n = 0 := e0
      subst e0'
      have hl' : vs.length = 0 * 1 := hl
      omega
    · simp only [Value.slice.injEq, true_and] at e
      obtain ⟨rfl, rfl⟩ := e
      have hk' : w'.heap[g]? = (w.setCell ⟨g, 0 + i, none⟩ v).heap[g]? := hk
      rw [Nat.zero_add, block_set hh] at hk'
      refine .inr ⟨g, c, cur.setIfInBounds i v, rfl, hB, hk', p1, p2, by rw [Array.size_setIfInBounds]; exact p3, ?_⟩
      rw [Array.toList_setIfInBounds, ← p4, List.take_set]
  · rcases List.mem_or_eq_of_mem_set hu with hu | rfl
    · exact o.2.1 u hu
    · exact h1
theorem ints_set (l : List Int) (i : Nat) (v : Int) : (ints l).set i (.int .i64 v) = ints (l.set i v) := by unfold ints; rw [List.map_set]
theorem atI_own {B : Nat} {w : World} {h : Hd} {l : List Int} (o : OwnR B w 3 1 h (ints l)) {i : Nat} (hi : i < l.length) : ∃ b u, h.a = some ⟨b, 0, none⟩ ∧ h.blk = [b] ∧ h.b = b ∧ h.o = 0 ∧ w.cell? ⟨b, i, none⟩ = some (.int .i64 u) ∧ w.frozen? ⟨b, i, none⟩ = false ∧ h.n = l.length ∧ l.length ≤ h.c := by
  have hl := o.1.1
  have hil : (ints l).length = l.length := by simp [ints]
  obtain ⟨a, n, c⟩ := h
  rcases o.1.2 with ⟨-, e0⟩ | ⟨g, c', cur, e, hB, hh, p1, p2, p3, p4⟩
  · have e0' : n = 0 := e0
    subst e0'
    have hl' : (ints l).length = 0 * 1 := hl
    omega
  · simp only [Value.slice.injEq, true_and] at e
    obtain ⟨rfl, rfl⟩ := e
    have hl' : (ints l).length = n * 1 := hl
    have hc' : cur.size = c * 1 := p3
    have hnc : n ≤ c := p1
    obtain ⟨u, hu⟩ : ∃ u, l[i]? = some u := ⟨_, List.getElem?_eq_getElem hi⟩
    have h4 : (ints l)[i]? = some (.int .i64 u) := by unfold ints; rw [List.getElem?_map, hu]; rfl
    refine ⟨g, u, rfl, rfl, rfl, rfl, ?_, by simp [World.frozen?, hh], by show n = _; omega, by show _ ≤ c; omega⟩
    rw [cell_of_row _ _ _ _ _ _ hh, ← Array.getElem?_toList]
    rw [← p4, List.getElem?_take_of_lt (by show i < n * 1; omega)] at h4
    exact h4
set_option maxRecDepth 100000 in
set_option maxHeartbeats 3200000 in
theorem prow56 (B g o : Nat) (W : Int) (p : Hd) (pl : List Int) (x y : Int) (rb ro rn rc : Nat) (row : List Int) (w : World)
    (c5 : w.cell? ⟨g, o + 5, none⟩ = some (.int .i64 W)) (c7 : w.cell? ⟨g, o + 7, none⟩ = some (.slice p.a p.n p.c)) (OP : OwnR B w 3 1 p (ints pl)) (RR : ReadR w 3 1 ⟨some ⟨rb, ro, none⟩, rn, rc⟩ (ints row)) (hrb : rb ∉ p.blk) (hg : g ∉ p.blk)
    (hW : 0 ≤ W ∧ W ≤ 32768) (hx : -100000 ≤ x ∧ x ≤ 100000) (hy : -100000 ≤ y ∧ y ≤ 100000) (hrn : rn ≤ 1000000) :
    Calls Try.prog 56 #[.pointer (some ⟨g, o, none⟩), .int .i64 x, .int .i64 y, .slice (some ⟨rb, ro, none⟩) rn rc] w fun e w' => e = .returned (.tuple #[]) ∧ OwnR B w' 3 1 p (ints (prow W y x 0 row pl)) ∧ Keeps (fun q => q ∈ p.blk) w w' := by
  have hl : row.length = rn := by
    have h1 := RR.1.len
    have h2 : (ints row).length = row.length := by simp [ints]
    have h3 : (ints row).length = rn * 1 := h1
    omega
  have hm0 : -3276800000 ≤ y * W := by
    have := Int.mul_le_mul_of_nonneg_right hy.1 hW.1
    have h2 : -100000 * W ≥ -100000 * 32768 := by omega
    omega
  have hm1 : y * W ≤ 3276800000 := by
    have := Int.mul_le_mul_of_nonneg_right hy.2 hW.1
    omega
  have HL := Lib.hid (And.intro hl hrn)
  have HM := Lib.hid (And.intro hm0 (And.intro hm1 (And.intro hx hW)))
  have C5 := Lib.hid c5
  have C7 := Lib.hid c7
  have HR := Lib.hid RR
  have HN := Lib.hid (And.intro hrb hg)
  have O0 := Lib.hid OP
  have PN := Lib.hid (show p.n = pl.length from by have h1 := OP.1.1; have h2 : (ints pl).length = pl.length := by simp [ints]
                                                   omega)
  have ymW : wrap64 (y * W) = y * W := wrap64_id _ (by omega) (by omega)
  obtain ⟨YW, hYW⟩ : ∃ YW, YW = y * W := ⟨_, rfl⟩
  have EY := Lib.hid hYW
  rw [← hYW] at hm0 hm1
  have ymW2 : wrap64 (y * W) = YW := by rw [ymW, hYW]
  obtain ⟨YX, hYX⟩ : ∃ YX, YX = YW + x := ⟨_, rfl⟩
  have yxw : wrap64 (YW + x) = YX := by rw [hYX]; exact wrap64_id _ (by omega) (by omega)
  have EX := Lib.hid (And.intro hYX (And.intro hm0 hm1))
  clear c5 c7 OP RR hrb hg hl hm0 hm1 hx hy hrn hW ymW hYW hYX
  go_enter Try.func56, Try.ntmps56
  go_wp2_with fail
  go_loopw [13] (fun s13 wr => ∃ i : Nat, i ≤ rn ∧ s13 = .int .i64 i ∧ OwnR B wr 3 1 p (ints (prow W y x 0 (row.take i) pl)) ∧ Keeps (fun q => q ∈ p.blk) w wr) (fun s13 _ => rn - (intOf s13).toNat)
  case atStart => exact ⟨0, Nat.zero_le _, rfl, by rw [List.take_zero, prow]; exact O0.out, Keeps.refl _ _⟩
  case round =>
    obtain ⟨i, hi, rfl, ho, hk⟩ := hrel
    have OI := Lib.hid ho
    have K := Lib.hid hk
    clear ho hk
    by_cases hlt : i < rn
    · have tk : decide ((i : Int) < (rn : Int)) = true := by simp; omega
      have tk2 : decide (i < rn) = true := by simp; omega
      obtain ⟨v, hv⟩ : ∃ v, row[i]? = some v := ⟨_, List.getElem?_eq_getElem (by have := HL.out.1; omega)⟩
      have ce : wr.cell? ⟨rb, ro + i, none⟩ = some (.int .i64 v) := K.out.cellS HN.out.1 ((HR.out.1.at' _ rfl).2.2 i _ (by unfold ints; rw [List.getElem?_map, hv]; rfl))
      have ri := prow_snoc W y x (row.take i) 0 pl v
      rw [← take_more hv, List.length_take, show 0 + min i row.length = i by have := HL.out.1; omega] at ri
      have RI := Lib.hid ri
      have c5 := K.out.cellS HN.out.2 C5.out
      have c7 := K.out.cellS HN.out.2 C7.out
      have iw : wrap64 ((i : Int) + 1) = (i : Int) + 1 := wrap64_id _ (by have := HL.out; omega) (by have := HL.out; omega)
      obtain ⟨XI, hXI⟩ : ∃ XI, XI = x + (i : Int) := ⟨_, rfl⟩
      obtain ⟨AT, hAT⟩ : ∃ AT, AT = YX + (i : Int) := ⟨_, rfl⟩
      have xw : wrap64 (x + (i : Int)) = XI := by rw [hXI]; exact wrap64_id _ (by have := HL.out; have := HM.out; omega) (by have := HL.out; have := HM.out; omega)
      have aw : wrap64 (YX + (i : Int)) = AT := by rw [hAT]; exact wrap64_id _ (by have := HL.out; have := HM.out; have := EX.out; omega) (by have := HL.out; have := HM.out; have := EX.out; omega)
      have hlen : (prow W y x 0 (row.take i) pl).length = p.n := by rw [prow_len]; exact PN.out.symm
      have PO := Lib.hid (show pone W y x i v (prow W y x 0 (row.take i) pl) = if (0 ≤ XI ∧ XI < W) ∧ (0 ≤ AT ∧ AT < (p.n : Int)) then (prow W y x 0 (row.take i) pl).set AT.toNat v else prow W y x 0 (row.take i) pl from by
        unfold pone
        rw [hlen, ← EY.out, ← EX.out.1, ← hXI, ← hAT])
      have HLEN := Lib.hid hlen
      have HLT := Lib.hid (And.intro hlt iw)
      clear hv ri hXI hAT hlen
      by_cases tc : (0 ≤ XI ∧ XI < W) ∧ (0 ≤ AT ∧ AT < (p.n : Int))
      · obtain ⟨A, rfl⟩ : ∃ A : Nat, AT = (A : Int) := ⟨AT.toNat, by omega⟩
        obtain ⟨b, u, hab, hblk, hb, ho, hcell, hfr, -, -⟩ := atI_own OI.out (i := A) (by rw [HLEN.out]; omega)
        have d1 : decide (XI ≥ 0) = true := by simpa using tc.1.1
        have d2 : decide (XI < W) = true := by simpa using tc.1.2
        have d4 : decide ((A : Int) < (p.n : Int)) = true := by simpa using tc.2.2
        have d5 : decide (A < p.n) = true := by have := tc.2.2; simp; omega
        have hA : A < p.n := by have := tc.2.2; omega
        have NX := Lib.hid (show OwnR B (wr.setCell ⟨b, A, none⟩ (.int .i64 v)) 3 1 p (ints (prow W y x 0 (row.take (i + 1)) pl)) from by
          rw [RI.out, PO.out, if_pos tc, Int.toNat_natCast, ← ints_set]
          exact OI.out.setI (by have h2 : (ints (prow W y x 0 (row.take i) pl)).length = (prow W y x 0 (row.take i) pl).length := by simp [ints]
                                rw [h2, HLEN.out]; exact hA) rfl (by rw [hb, ho, Nat.zero_add]))
        have NK := Lib.hid (K.out.trans (keeps_weak (Y := fun q => q ∈ p.blk) (keeps_at wr b A (.int .i64 v)) (fun q _ e => by have e' : q = b := e; rw [e', hblk]; simp)) (fun _ _ e => e))
        clear PO RI tc hblk hb ho tk2
        go_wp2_with fail
        go_roundw
        case rel => exact ⟨i + 1, Nat.succ_le_of_lt HLT.out.1, by (show Value.int .i64 (wrap64 ((i : Int) + 1)) = Value.int .i64 ((i + 1 : Nat) : Int)); rw [HLT.out.2]; rfl, NX.out, NK.out⟩
        case measure => exact meas_lt HLT.out.1 HLT.out.2
      · have NX := Lib.hid (show OwnR B wr 3 1 p (ints (prow W y x 0 (row.take (i + 1)) pl)) from by
          rw [RI.out, PO.out, if_neg tc]
          exact OI.out)
        clear PO RI
        by_cases t1 : 0 ≤ XI
        · have d1 : decide (XI ≥ 0) = true := by simpa using t1
          by_cases t2 : XI < W
          · have d2 : decide (XI < W) = true := by simpa using t2
            by_cases t3 : 0 ≤ AT
            · have d3 : decide (AT ≥ 0) = true := by simpa using t3
              have t4 : ¬ AT < (p.n : Int) := fun h => tc ⟨⟨t1, t2⟩, ⟨t3, h⟩⟩
              have d4 : decide (AT < (p.n : Int)) = false := by simpa using t4
              clear t1 t2 t3 t4 tc tk2
              go_wp2_with fail
              go_roundw
              case rel => exact ⟨i + 1, Nat.succ_le_of_lt HLT.out.1, by (show Value.int .i64 (wrap64 ((i : Int) + 1)) = Value.int .i64 ((i + 1 : Nat) : Int)); rw [HLT.out.2]; rfl, NX.out, K.out⟩
              case measure => exact meas_lt HLT.out.1 HLT.out.2
            · have d3 : decide (AT ≥ 0) = false := by simpa using t3
              clear t1 t2 t3 tc tk2
              go_wp2_with fail
              go_roundw
              case rel => exact ⟨i + 1, Nat.succ_le_of_lt HLT.out.1, by (show Value.int .i64 (wrap64 ((i : Int) + 1)) = Value.int .i64 ((i + 1 : Nat) : Int)); rw [HLT.out.2]; rfl, NX.out, K.out⟩
              case measure => exact meas_lt HLT.out.1 HLT.out.2
          · have d2 : decide (XI < W) = false := by simpa using t2
            clear t1 t2 tc tk2
            go_wp2_with fail
            go_roundw
            case rel => exact ⟨i + 1, Nat.succ_le_of_lt HLT.out.1, by (show Value.int .i64 (wrap64 ((i : Int) + 1)) = Value.int .i64 ((i + 1 : Nat) : Int)); rw [HLT.out.2]; rfl, NX.out, K.out⟩
            case measure => exact meas_lt HLT.out.1 HLT.out.2
        · have d1 : decide (XI ≥ 0) = false := by simpa using t1
          clear t1 tc tk2
          go_wp2_with fail
          go_roundw
          case rel => exact ⟨i + 1, Nat.succ_le_of_lt HLT.out.1, by (show Value.int .i64 (wrap64 ((i : Int) + 1)) = Value.int .i64 ((i + 1 : Nat) : Int)); rw [HLT.out.2]; rfl, NX.out, K.out⟩
          case measure => exact meas_lt HLT.out.1 HLT.out.2
    · obtain rfl : i = rn := by omega
      have tk : decide ((i : Int) < (i : Int)) = false := by simp
      have FIN := Lib.hid (show row.take i = row from List.take_of_length_le (by have := HL.out.1; omega))
      rw [FIN.out] at OI
      clear hlt hi
      go_wp2_with fail
      exact bodyPost_end (results_none rfl _ _ _) rfl ⟨rfl, OI.out, K.out⟩
end Go.Proofs.Ytfcpbpfemmdklaa
