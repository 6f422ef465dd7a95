/- The walk of Lengths. -/
import Derived.Test.YtoiknbbimgeihaaXK
import Derived.Test.YtoiknbbimgeihaaS
import Derived.Laws.NewBlocks
namespace Go.Proofs.Ytoiknbbimgeihaa
open Go.RowKit
set_option linter.unusedVariables false

theorem good_parts (zs : List Int) (most : Int) : good zs most = true ↔ (1 ≤ most ∧ most ≤ 16) ∧ listedS zs 1099511627776 = true ∧ (posI zs).length ≤ 2 ^ most.toNat := by
  unfold good listedS
  simp only [decide_eq_true_eq]
  constructor
  · rintro ⟨h1, h2, h3, h4, h5⟩; exact ⟨⟨h1, h2⟩, ⟨h3, h4⟩, h5⟩
  · rintro ⟨⟨h1, h2⟩, ⟨h3, h4⟩, h5⟩; exact ⟨h1, h2, h3, h4, h5⟩

set_option maxRecDepth 100000 in
set_option maxHeartbeats 1600000 in
/-- Where most or the counts are wrong. -/
theorem lengths_wrong (w : World) (a : Option Addr) (n c : Nat) (zs : List Int) (most : Int) (h : Ints w a n zs) (hn : n ≤ 16777216) (hbad : ¬ ((1 ≤ most ∧ most ≤ 16) ∧ listedS zs 1099511627776 = true)) :
    Calls Try.prog 11 #[.slice a n c, .int .i64 most] w fun e w' => e = .returned (.tuple #[.slice none 0 0, .bool false]) ∧ Below w.heap.size w w' := by
  have C := Lib.hid (listed_any w a n c zs 1099511627776 h hn)
  have HD := Lib.hid (Below.refl w.heap.size w)
  clear h
  by_cases h1 : most < 1
  · have u1 : decide (most < 1) = true := by simpa using h1
    clear hbad C
    go_enter Try.func11, Try.ntmps11
    go_wp2_with fail
    go_ret2
    exact ⟨rfl, HD.out⟩
  · have u1 : decide (most < 1) = false := by simpa using h1
    by_cases h2 : 16 < most
    · have u2 : decide (16 < most) = true := by simpa using h2
      clear hbad C
      go_enter Try.func11, Try.ntmps11
      go_wp2_with fail
      go_ret2
      exact ⟨rfl, HD.out⟩
    · have u2 : decide (16 < most) = false := by simpa using h2
      have hl : listedS zs 1099511627776 = false := by
        cases hl : listedS zs 1099511627776
        · rfl
        · exact absurd ⟨⟨by omega, by omega⟩, hl⟩ hbad
      rw [hl] at C
      clear hbad
      go_enter Try.func11, Try.ntmps11
      go_wp2_with (go_at_call 22; refine C.out.mono ?_; rintro e w' ⟨rfl, hw⟩; obtain rfl := hw.symm)
      go_ret2
      exact ⟨rfl, HD.out⟩

theorem lengths_yes {w w' : World} {n : Nat} {zs : List Int} {most : Int} {e : Ending} (hg : good zs most = true) (h : ∃ aa cap ls, e = .returned (.tuple #[.slice aa n cap, .bool true]) ∧ Ints w' aa n ls ∧ n ≤ cap ∧ Best zs ls most.toNat ∧ Below w.heap.size w w') : LengthsSay w n zs most e w' := by
  unfold LengthsSay
  rw [if_pos hg]
  exact h
theorem lengths_no {w w' : World} {n : Nat} {zs : List Int} {most : Int} {e : Ending} (hg : good zs most = false) (h : ∃ aa cap, e = .returned (.tuple #[.slice aa 0 cap, .bool false]) ∧ Below w.heap.size w w') : LengthsSay w n zs most e w' := by
  unfold LengthsSay
  rw [hg, if_neg (by simp)]
  exact h

set_option maxRecDepth 100000 in
set_option maxHeartbeats 1600000 in
/-- Where both are right. -/
theorem lengths_right (w : World) (a : Option Addr) (n c : Nat) (zs : List Int) (most : Nat) (h : Ints w a n zs) (hm : 1 ≤ most ∧ most ≤ 16) (hl : listedS zs 1099511627776 = true) :
    Calls Try.prog 11 #[.slice a n c, .int .i64 (most : Nat)] w (LengthsSay w n zs (most : Nat)) := by
  have hlz : zs.length ≤ 300 ∧ ∀ z ∈ zs, 0 ≤ z ∧ z ≤ 1099511627776 := by
    unfold listedS at hl
    simpa using hl
  have hnz : zs.length = n := h.1
  have hn : n ≤ 300 := by omega
  have C0 := listed_any w a n c zs 1099511627776 h (by omega)
  rw [hl] at C0
  have C := Lib.hid C0
  have CR := Lib.hid (ranked_any w a n c zs h (by omega))
  have HZ := Lib.hid h
  have u1 : decide ((most : Int) < 1) = false := by simp; omega
  have u2 : decide ((16 : Int) < (most : Int)) = false := by simp; omega
  clear h C0
  go_enter Try.func11, Try.ntmps11
  go_wp2_with (first | (go_at_call 22; refine C.out.mono ?_; rintro e w' ⟨rfl, hw⟩; obtain rfl := hw.symm))
  clear u1 u2
  refine CR.out.mono ?_
  rintro e w2 ⟨ar, cap, us, rfl, hcap, hr, hi, hfr, hb⟩
  have hpl : (posI zs).length = us.length := by
    rw [← used_pos (fun z hz => (hlz.2 z hz).1), ← hr.perm.length_eq]
  have hpw := wrap_pow hm.2
  have hku : us.length ≤ 300 := by
    have h1 := hr.perm.length_eq
    have h2 := usedTo_length zs zs.length
    omega
  have hz0 : ∀ z ∈ zs, 0 ≤ z := fun z hz => (hlz.2 z hz).1
  by_cases hfit : us.length ≤ 2 ^ most
  · have hg : good zs (most : Nat) = true := by
      rw [good_parts]
      exact ⟨⟨by omega, by omega⟩, hl, by rw [hpl, Int.toNat_natCast]; exact hfit⟩
    have hs2 : decide (wrap64 (2 ^ most) < (us.length : Int)) = false := decide_eq_false (by rw [hpw]; omega)
    have hmk := run_make_row' (P := Try.prog) 22 3 (.int .i64 0) 8 Try.underlying22 info3 rfl .i64 .i64 n (by omega) (by omega)
    have HGOOD := Lib.hid hg
    have HG := Lib.hid (And.intro hr (And.intro hfr hi))
    have HB := Lib.hid hb
    have HZZ := Lib.hid (And.intro hlz hz0)
    have HFIT := Lib.hid hfit
    clear hr hfr hi hb hpl hg hlz hz0 hl hpw
    by_cases hk1 : us.length = 1
    · obtain ⟨t, rfl⟩ : ∃ t, us = [t] := by
        match us, hk1 with
        | [t], _ => exact ⟨t, rfl⟩
      have htn : t < n := by rw [← hnz]; exact ranked_lt HG.out.1 t List.mem_cons_self
      obtain ⟨g, hg⟩ : ∃ g, g = w2.heap.size := ⟨_, rfl⟩
      have hrow := made_row w2 n
      have hb3 : Below w.heap.size w (w2.alloc (.cells (madeCells #[.int .i64 0] n) 3)) := HB.out.alloc HB.out.size _
      have hi3 := HG.out.2.2.later (w' := w2.alloc (.cells (madeCells #[.int .i64 0] n) 3)) (fun k hk => Below.heap_alloc _ _ _ hk)
      obtain ⟨b1, o1, s1, rfl, hs1, _, hc1⟩ := hi3.at (i := 0) (by simp)
      have e1 : s1 = (t : Int) := by cases hs1; rfl
      subst e1
      obtain ⟨old, hold, hfr2⟩ : ∃ old : Int, (w2.alloc (.cells (madeCells #[.int .i64 0] n) 3)).cell? ⟨w2.heap.size, t, none⟩ = some (.int .i64 old) ∧ (w2.alloc (.cells (madeCells #[.int .i64 0] n) 3)).frozen? ⟨w2.heap.size, t, none⟩ = false := ⟨_, hrow.cell htn⟩
      have X := Lib.hid (show Ints ((w2.alloc (.cells (madeCells #[.int .i64 0] n) 3)).setCell ⟨w2.heap.size, t, none⟩ (.int .i64 1)) (some ⟨w2.heap.size, 0, none⟩) n ((List.range zs.length).map (fun s => if s = t then 1 else 0)) ∧ Below w.heap.size w ((w2.alloc (.cells (madeCells #[.int .i64 0] n) 3)).setCell ⟨w2.heap.size, t, none⟩ (.int .i64 1)) from by
        have hs := hrow.set (f' := fun s => if s = t then 1 else 0) (z := 1) htn (fun j hj => rfl)
        refine ⟨hs.ints (by simp [hnz]) (fun z hz => ?_) (fun j hj => ?_), below_set hb3 HB.out.size _⟩
        · simp only [List.mem_map, List.mem_range] at hz
          obtain ⟨j, _, rfl⟩ := hz
          split <;> omega
        · rw [List.getElem?_map, List.getElem?_range (by omega)]; rfl)
      have BEST := Lib.hid (lens_one (most := most) HZZ.out.2 HG.out.1 rfl hm.1)
      clear hrow hb3 hi3 hg
      rw [Nat.add_zero] at hc1
      have hs3 : decide (wrap64 (2 ^ most) < 1) = false := by
        have := hs2
        simpa using this
      have heq : (w2.alloc (.cells (madeCells #[.int .i64 0] n) 3)).setCell ⟨w2.heap.size, t, none⟩ (.int .i64 1) = w2.alloc (.cells ((madeCells #[.int .i64 0] n).setIfInBounds t (.int .i64 1)) 3) := World.setCell_alloc_at _ _ _ _ _ rfl
      rw [heq] at X
      clear heq
      go_wp2_with fail
      go_ret2
      exact lengths_yes HGOOD.out ⟨_, n, _, rfl, X.out.1, Nat.le_refl _, BEST.out, X.out.2⟩
    · have hu1 : decide ((us.length : Int) = 1) = false := decide_eq_false (by omega)
      have hu2 : ((us.length : Int) == 1) = false := by simp; omega
      have CB := Lib.hid (fun (W : World) (hW : Ints W a n zs) (hV : Ints W ar us.length (natZ us)) => bought_any W a n c zs ar us.length cap us most hW hV (fun s hs => by rw [← hnz]; exact ranked_lt HG.out.1 s hs) hn hku hm HZZ.out.1.2 (fit_of HG.out.1 hm.1 HFIT.out))
      have hpl : (pricesOf zs us).length = us.length := by simp [pricesOf]
      have BEST := Lib.hid (lens_best (most := most) HZZ.out.2 HG.out.1 hk1 hm.1 HFIT.out)
      have CB1 := Lib.hid (CB.out (w2.alloc (.cells (madeCells #[.int .i64 0] n) 3)) ((HZ.out.below HB.out).later (fun k hk => Below.heap_alloc _ _ _ hk)) (HG.out.2.2.later (fun k hk => Below.heap_alloc _ _ _ hk)))
      clear CB
      go_wp2_with fail
      refine CB1.out.mono ?_
      rintro e w3 ⟨gb, rfl, hib, hgb, hb3⟩
      have hws : (w2.alloc (.cells (madeCells #[.int .i64 0] n) 3)).heap.size = w2.heap.size + 1 := Array.size_push _
      have hle := fun x hx => bought_le (pricesOf zs us) most (2 * us.length - 2) (fit_of HG.out.1 hm.1 HFIT.out) x hx
      rw [hpl] at hib hle
      have hbl := Huff.bought_length (pricesOf zs us) most (2 * us.length - 2)
      have hrow0 : Row w3 w2.heap.size n (fun _ => 0) := (made_row w2 n).later (hb3.block _ (by rw [hws]; exact Nat.lt_succ_self _))
      have hu3 := HG.out.2.2.later (w' := w3) (fun k hk => (hb3.block k (by rw [hws]; omega)).trans (Below.heap_alloc _ _ _ hk))
      have hbw : Below w.heap.size w w3 := below_join (HB.out.alloc HB.out.size (.cells (madeCells #[.int .i64 0] n) 3)) hb3 (Nat.le_refl _)
      have hag : 0 < us.length → ∀ x, ar = some x → x.block ≠ w2.heap.size := fun hk0 x hx => by
        obtain ⟨b1, o1, z, e, _, _, hcl⟩ := HG.out.2.2.at (i := 0) hk0
        rw [hx] at e
        cases e
        have := World.block_lt_of_cell? w2 (⟨b1, o1 + 0, none⟩ : Addr) hcl
        simp only at this ⊢
        omega
      have hnd : us.Nodup := (HG.out.1.perm.nodup_iff).2 (usedTo_nodup _ _)
      have hsn := ranked_lt HG.out.1
      rw [hnz] at hsn BEST
      have hwg : w.heap.size ≤ w2.heap.size := HB.out.size
      generalize Huff.bought (pricesOf zs us) most (2 * us.length - 2) = bt at *
      have HF := Lib.hid (And.intro (And.intro hle hbl) (And.intro hag (And.intro hnd hsn)))
      have HIB := Lib.hid (And.intro hib hu3)
      have HWG := Lib.hid hwg
      have hgbn : gb ≠ w2.heap.size := by omega
      have HST := Lib.hid (And.intro hrow0 hbw)
      clear hle hbl hag hnd hsn hib hu3 hrow0 hbw hb3 hgb hws hmk hs2 hu1 hu2 hpl CB1 hwg
      generalize w2.heap.size = g at *
      go_wp2_with fail
      go_loopw [47] (fun cnt wl => ∃ i : Nat, i ≤ most ∧ cnt = .int .i64 i ∧ Row wl g n (fun s => (met us (bt.take i) s : Nat)) ∧ (∀ k, k ≠ g → wl.heap[k]? = w3.heap[k]?) ∧ Below w.heap.size w wl) (fun cnt _ => most - (intOf cnt).toNat)
      case atStart => exact ⟨0, Nat.zero_le _, rfl, HST.out.1, fun _ _ => rfl, HST.out.2⟩
      case round =>
        clear HST
        obtain ⟨i, hi, rfl, hrow, hbut, hb⟩ := hrel
        by_cases hlt : i < most
        · obtain ⟨b1, o1, z, e, hz1, _, hc1⟩ := (HIB.out.1.laterAt (w' := wr) (fun x hx => hbut _ (by cases hx; exact hgbn))).at hlt
          cases e
          have hbi : bt[i]? = some (bt.getD i 0) := by
            rw [List.getD_eq_getElem?_getD, List.getElem?_eq_getElem (by rw [HF.out.1.2]; exact hlt)]; rfl
          rw [natZ_get (by rw [HF.out.1.2]; exact hlt)] at hz1
          cases hz1
          have hcu := HF.out.1.1 _ (List.mem_of_getElem? hbi)
          obtain ⟨cc, hcc⟩ : ∃ cc, cc = bt.getD i 0 := ⟨_, rfl⟩
          rw [← hcc] at hc1 hcu hbi
          have htk := take_more hbi
          have HTK := Lib.hid htk
          have HROW := Lib.hid hrow
          have HBUT := Lib.hid hbut
          have HB2 := Lib.hid hb
          rw [Nat.zero_add] at hc1
          have hccap : cc ≤ cap := by omega
          clear hbi hcc htk hrow hbut hb
          go_wp2_with fail
          go_loopw [55] (fun cnt wl => ∃ t : Nat, t ≤ cc ∧ cnt = .int .i64 t ∧ Row wl g n (fun s => (met us (bt.take i) s + (if s ∈ us.take t then 1 else 0) : Nat)) ∧ (∀ k, k ≠ g → wl.heap[k]? = w3.heap[k]?) ∧ Below w.heap.size w wl) (fun cnt _ => cc - (intOf cnt).toNat)
          case atStart => exact ⟨0, Nat.zero_le _, rfl, HROW.out.congr (fun j _ => by simp), HBUT.out, HB2.out⟩
          case round =>
            clear HROW HBUT HB2 hc1
            obtain ⟨t, ht, rfl, hrow, hbut, hb⟩ := hrel
            by_cases htc : t < cc
            · have hag := HF.out.2.1 (by omega)
              obtain ⟨b1, o1, z, rfl, hz1, _, hc1⟩ := (HIB.out.2.laterAt (w' := wr) (fun x hx => hbut _ (hag x hx))).at (i := t) (by omega)
              rw [natZ_get (by omega)] at hz1
              cases hz1
              have hus : us[t]? = some us[t] := List.getElem?_eq_getElem (by omega)
              have husd : us.getD t 0 = us[t] := by rw [List.getD_eq_getElem?_getD, hus]; rfl
              rw [husd] at hc1
              have hs1 : us[t] < n := HF.out.2.2.2 _ (List.getElem_mem _)
              have htk2 := take_more hus
              have hnot : us[t] ∉ us.take t := fun hmem => by
                have h1 := HF.out.2.2.1
                rw [← List.take_append_drop t us, List.drop_eq_getElem_cons (show t < us.length by omega)] at h1
                exact (List.nodup_append.1 h1).2.2 _ hmem _ List.mem_cons_self rfl
              obtain ⟨v0, hv0⟩ : ∃ v0, v0 = met us (bt.take i) us[t] := ⟨_, rfl⟩
              have hv16 : v0 ≤ 16 := by
                have h1 := met_le us (bt.take i) us[t]
                have h2 := HF.out.1.2
                rw [List.length_take] at h1
                omega
              have hcell := hrow.cell hs1
              rw [if_neg hnot, Nat.add_zero, ← hv0] at hcell
              obtain ⟨hcell, hfr2⟩ := hcell
              have X := Lib.hid (show Row (wr.setCell ⟨g, us[t], none⟩ (.int .i64 ((v0 : Int) + 1))) g n (fun s => (met us (bt.take i) s + (if s ∈ us.take (t + 1) then 1 else 0) : Nat)) ∧ (∀ k, k ≠ g → (wr.setCell ⟨g, us[t], none⟩ (.int .i64 ((v0 : Int) + 1))).heap[k]? = w3.heap[k]?) ∧ Below w.heap.size w (wr.setCell ⟨g, us[t], none⟩ (.int .i64 ((v0 : Int) + 1))) from by
                refine ⟨hrow.set hs1 (fun j hj => ?_), fun k hk => (Below.heap_setCell _ _ _ _ (by simpa using hk)).trans (hbut k hk), below_set hb HWG.out _⟩
                rw [htk2]
                by_cases hji : j = us[t]
                · rw [if_pos (show j ∈ us.take t ++ [us[t]] from by rw [hji]; exact List.mem_append_right _ List.mem_cons_self), if_pos hji, hji, ← hv0]; omega
                · rw [if_neg hji]
                  by_cases hjm : j ∈ us.take t
                  · rw [if_pos (List.mem_append_left _ hjm), if_pos hjm]
                  · rw [if_neg (fun h => by rcases List.mem_append.1 h with h | h; exact hjm h; exact hji (List.mem_singleton.1 h)), if_neg hjm])
              clear hrow hbut hb hag hus husd htk2 hnot hv0
              generalize us[t] = s at *
              go_wp2_with fail
              go_roundw
              case rel => exact ⟨t + 1, htc, by go_num, X.out.1, X.out.2.1, X.out.2.2⟩
              case measure => simp [intOf]; omega
            · obtain rfl : t = cc := by omega
              have X := Lib.hid (show Row wr g n (fun s => (met us (bt.take (i + 1)) s : Nat)) ∧ (∀ k, k ≠ g → wr.heap[k]? = w3.heap[k]?) ∧ Below w.heap.size w wr from by
                refine ⟨hrow.congr (fun j hj => ?_), hbut, hb⟩
                rw [HTK.out, met_snoc])
              clear hrow hbut hb
              go_wp2_with fail
              go_roundw
              case rel => exact ⟨i + 1, hlt, by go_num, X.out.1, X.out.2.1, X.out.2.2⟩
              case measure => simp [intOf]; omega
        · obtain rfl : most = i := by omega
          have X := Lib.hid (show Ints wr (some ⟨g, 0, none⟩) n ((List.range n).map (fun s => ((met us bt s : Nat) : Int))) ∧ Below w.heap.size w wr from by
            have ebt : bt.take most = bt := List.take_of_length_le (by rw [HF.out.1.2]; exact Nat.le_refl _)
            rw [ebt] at hrow
            refine ⟨hrow.ints (by simp) (fun z hz => ?_) (fun j hj => ?_), hb⟩
            · simp only [List.mem_map, List.mem_range] at hz
              obtain ⟨j, _, rfl⟩ := hz
              have h1 := met_le us bt j
              have h2 := HF.out.1.2
              omega
            · rw [List.getElem?_map, List.getElem?_range hj]; rfl)
          clear hrow hbut hb
          go_wp2_with fail
          go_ret2
          exact lengths_yes HGOOD.out ⟨_, n, _, rfl, X.out.1, Nat.le_refl _, BEST.out, X.out.2⟩
  · have hg : good zs (most : Nat) = false := by
      cases hg : good zs (most : Nat)
      · rfl
      · rw [good_parts] at hg
        have := hg.2.2
        rw [hpl, Int.toNat_natCast] at this
        exact absurd this hfit
    have hs2 : decide (wrap64 (2 ^ most) < (us.length : Int)) = true := decide_eq_true (by rw [hpw]; omega)
    have HGB := Lib.hid (And.intro hg hb)
    clear hr hfr hi hb hpl hg hlz hz0 hl hpw hfit
    go_wp2_with fail
    go_ret2
    exact lengths_no HGB.out.1 ⟨none, 0, rfl, HGB.out.2⟩

theorem lengths_says : LengthsSays := by
  intro w a n c zs most h hn hm0 hm1
  by_cases hok : (1 ≤ most ∧ most ≤ 16) ∧ listedS zs 1099511627776 = true
  · obtain ⟨m, rfl⟩ := Int.eq_ofNat_of_zero_le (show 0 ≤ most by omega)
    exact lengths_right w a n c zs m h (by omega) hok.2
  · have hg : good zs most = false := by
      cases hg : good zs most
      · rfl
      · rw [good_parts] at hg
        exact absurd ⟨hg.1, hg.2.1⟩ hok
    refine (lengths_wrong w a n c zs most h hn hok).mono ?_
    rintro e w' ⟨he, hb⟩
    exact lengths_no hg ⟨none, 0, he, hb⟩
end Go.Proofs.Ytoiknbbimgeihaa
