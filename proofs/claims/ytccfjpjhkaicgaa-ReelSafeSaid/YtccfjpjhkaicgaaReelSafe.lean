/-
  For every input the Go function ReelSafe of the package scumblelaw01 returns true, and each of its arguments reads behind the call as it read before.
  Conditions: none beyond those of the row itself.
-/
import Derived.Test.YtccfjpjhkaicgaaRows
import Derived.Test.YtccfjpjhkaicgaaN
import Derived.WalkKit
import Derived.ProofKit
import Derived.OpenShut
import Derived.ShutString
import Derived.ChangeOld
import Derived.Below
namespace Go.Proofs.Ytccfjpjhkaicgaa.reelSafe
open Go.ChangeShapes Go.WideShapes Go.ChangeAt Go.RowKit
open Go.ChangeMaps (open_string shut_string)
set_option linter.unusedVariables false

theorem own : ownKnob Try.prog.godebug = none := by kernel_rfl
theorem laidOut : laidOutB Try.prog = true := by kernel_rfl

/-- WHAT THE WALK IS TOLD OF A SLICE OF INTEGERS THAT CAME IN: it is nil; or it leads to a row of 'cap' cells, the numbers 'zs' (the first 'len' are its elements, the rest its spare room), each fitting its kind. -/
def IsRow (k : IntKind) (w : World) (a : Option Addr) (len cap : Nat) (zs : List Int) : Prop :=
  (a = none ∧ len = 0 ∧ cap = 0 ∧ zs = []) ∨
  ∃ x, a = some x ∧ len ≤ cap ∧ cap ≤ maxLen ∧ zs.length = cap ∧ (∀ i, i < zs.length → w.cell? (x.add i) = some (.int k (zs.getD i 0))) ∧ ∀ n ∈ zs, (Lit.int k n).wf = true


/-- What Crash leaves: n bytes of what wasn't safe, the last of them garbled. -/
theorem crash_facts (ys0 ys1 gs : List Int) (keep : Int) : ∃ n k : Nat, (loose 4000 (ys0 ++ ys1) ys0.length).crash keep gs = loose 4000 (mix ((ys0 ++ ys1).take (ys0.length + n)) gs (ys0.length + n - k) (gs.length - k) k) ((ys0.length + n : Nat) : Int) ∧
    n ≤ ys1.length ∧ (keep < 0 → n = 0) ∧ (0 ≤ keep → (n : Int) ≤ keep) ∧ k = min n gs.length := by
  refine ⟨(min (max keep 0) (((ys0 ++ ys1).length : Int) - ys0.length)).toNat, _, rfl, ?_, ?_, ?_, rfl⟩
  · simp only [List.length_append]; omega
  · intro h; omega
  · intro h; omega

theorem safe_part (ys0 ys1 gs : List Int) (n k b : Nat) (hn : n ≤ ys1.length) (hb : b ≤ n - k) :
    ((mix ((ys0 ++ ys1).take (ys0.length + n)) gs (ys0.length + n - k) (gs.length - k) k).drop ys0.length).take b = ys1.take b := by
  by_cases h0 : b = 0
  · subst h0; simp
  rw [mix_cut _ _ _ _ _ _ _ (by omega)]
  rw [List.drop_take, List.drop_left, List.take_take]
  congr 1
  omega
theorem safe_head (ys0 ys1 gs : List Int) (n k : Nat) (hk : k ≤ n) :
    (mix ((ys0 ++ ys1).take (ys0.length + n)) gs (ys0.length + n - k) (gs.length - k) k).take ys0.length = ys0 := by
  have h := mix_cut ((ys0 ++ ys1).take (ys0.length + n)) gs (ys0.length + n - k) (gs.length - k) k 0 ys0.length (by omega)
  rw [List.drop_zero, List.drop_zero] at h
  rw [h, List.take_take]
  rw [show min ys0.length (ys0.length + n) = ys0.length by omega]
  simp

set_option maxHeartbeats 1600000 in
/-- The law's walk. -/
theorem main (a0 : Option Addr) (n0 c0 : Nat) (ys0 : List Int) (a1 : Option Addr) (n1 c1 : Nat) (ys1 : List Int) (keep : Int) (a3 : Option Addr) (n3 c3 : Nat) (gs : List Int) (w : World) (hs0 : Src w a0 n0 ys0) (hf0 : Fits a0 n0 c0) (hs1 : Src w a1 n1 ys1) (hf1 : Fits a1 n1 c1) (hs3 : Src w a3 n3 gs) (hf3 : Fits a3 n3 c3) :
    Calls Try.prog 4 #[.slice a0 n0 c0, .slice a1 n1 c1, .int .i64 keep, .slice a3 n3 c3] w (Yes w) := by
  have A := Lib.hid (anchor_any w)
  have S0 := Lib.hid hs0
  have S1 := Lib.hid hs1
  have S3 := Lib.hid hs3
  have F0 := Lib.hid hf0
  have F1 := Lib.hid hf1
  have F3 := Lib.hid hf3
  by_cases t0 : 1500 < n0
  · have t0' : decide ((1500 : Int) < n0) = true := by simp; omega
    clear hs0 hf0 hs1 hf1 hs3 hf3
    go_enter Try.func4, Try.ntmps4
    go_wp2_with fail
    refine A.out.mono ?_
    rintro e w1 ⟨rfl, hk⟩
    go_wp2_with fail
    go_ret
    exact ⟨rfl, hk⟩
  have t0' : decide ((1500 : Int) < n0) = false := by simp; omega
  by_cases t1 : 1500 < n1
  · have t1' : decide ((1500 : Int) < n1) = true := by simp; omega
    clear hs0 hf0 hs1 hf1 hs3 hf3
    go_enter Try.func4, Try.ntmps4
    go_wp2_with fail
    refine A.out.mono ?_
    rintro e w1 ⟨rfl, hk⟩
    go_wp2_with fail
    go_ret
    exact ⟨rfl, hk⟩
  have t1' : decide ((1500 : Int) < n1) = false := by simp; omega
  by_cases t3 : 3000 < n3
  · have t3' : decide ((3000 : Int) < n3) = true := by simp; omega
    clear hs0 hf0 hs1 hf1 hs3 hf3
    go_enter Try.func4, Try.ntmps4
    go_wp2_with fail
    refine A.out.mono ?_
    rintro e w1 ⟨rfl, hk⟩
    go_wp2_with fail
    go_ret
    exact ⟨rfl, hk⟩
  have t3' : decide ((3000 : Int) < n3) = false := by simp; omega
  clear hs0 hf0 hs1 hf1 hs3 hf3
  obtain ⟨n, k, hcr, hn1, hneg, hpos, hk⟩ := crash_facts ys0 ys1 gs keep
  have HCR := Lib.hid hcr
  have HK := Lib.hid hk
  have hn1' : n ≤ n1 := by have := S1.out.1; omega
  clear hcr hk hn1
  go_enter Try.func4, Try.ntmps4
  go_wp2_with fail
  refine A.out.mono ?_
  rintro e w1 ⟨rfl, hk⟩
  have N := Lib.hid (new_st hk 4000 (by omega) (by omega))
  clear hk
  go_wp2_with fail
  refine N.out.mono ?_
  rintro e w2 ⟨rfl, h2⟩
  have C := append_st h2 (h2.src S0.out) F0.out
  rw [new_loose, append_loose _ _ _ _ (by simp only [List.length_nil]; have := S0.out.1; omega), List.nil_append] at C
  have C := Lib.hid C
  clear h2
  go_wp2_with fail
  refine C.out.mono ?_
  rintro e w3 ⟨rfl, h3⟩
  have C2 := sync_st h3
  rw [sync_loose] at C2
  have C2 := Lib.hid C2
  clear h3
  go_wp2_with fail
  refine C2.out.mono ?_
  rintro e w4 ⟨rfl, h4⟩
  have C3 := append_st h4 (h4.src S1.out) F1.out
  rw [append_loose _ _ _ _ (by have := S0.out.1; have := S1.out.1; omega)] at C3
  have C3 := Lib.hid C3
  clear h4
  go_wp2_with fail
  refine C3.out.mono ?_
  rintro e w5 ⟨rfl, h5⟩
  have C4 := crash_st h5 keep (h5.src S3.out) F3.out (fun hp => S3.out.block hp)
  rw [HCR.out] at C4
  have C4 := Lib.hid C4
  clear h5
  go_wp2_with fail
  refine C4.out.mono ?_
  rintro e w6 ⟨rfl, h6⟩
  have hl : (loose 4000 (mix ((ys0 ++ ys1).take (ys0.length + n)) gs (ys0.length + n - k) (gs.length - k) k) ((ys0.length + n : Nat) : Int)).xs.length = n0 + n := by
    simp only [loose, mix_length, List.length_take, List.length_append]; have := S0.out.1; have := S1.out.1; omega
  have hsf : (loose 4000 (mix ((ys0 ++ ys1).take (ys0.length + n)) gs (ys0.length + n - k) (gs.length - k) k) ((ys0.length + n : Nat) : Int)).safe = ((n0 + n : Nat) : Int) := by
    simp only [loose]; have := S0.out.1; omega
  have C5 := size_st h6
  rw [hl] at C5
  have C6 := safe_st h6
  rw [hsf] at C6
  have C7 := read_st h6 rfl 0 (n0 + n) (by rw [hl]; omega)
  have C5 := Lib.hid C5
  have C6 := Lib.hid C6
  have C7 := Lib.hid C7
  clear h6 hl hsf
  go_wp2_with fail
  refine C5.out.mono ?_
  rintro e w6' ⟨rfl, rfl⟩
  have d1 : decide ((n0 : Int) + n - n0 < 0) = false := by simp; omega
  have d2 : decide ((n1 : Int) < (n0 : Int) + n - n0) = false := by simp; omega
  by_cases hkeep : keep < 0
  · have d3 : decide (keep < 0) = true := by simpa using hkeep
    have d4 : decide ((n0 : Int) < (n0 : Int) + n) = false := by have := hneg hkeep; simp; omega
    clear hneg hpos
    go_wp2_with fail
    refine C6.out.mono ?_
    rintro e w6' ⟨rfl, rfl⟩
    go_wp2_with fail
    refine C5.out.mono ?_
    rintro e w6' ⟨rfl, rfl⟩
    go_wp2_with fail
    refine C5.out.mono ?_
    rintro e w6' ⟨rfl, rfl⟩
    go_wp2_with fail
    refine C7.out.mono ?_
    rintro e w7 ⟨rfl, h7, hs7⟩
    have hx : List.take (n0 + n) (List.drop 0 (loose 4000 (mix ((ys0 ++ ys1).take (ys0.length + n)) gs (ys0.length + n - k) (gs.length - k) k) ((ys0.length + n : Nat) : Int)).xs) = mix ((ys0 ++ ys1).take (ys0.length + n)) gs (ys0.length + n - k) (gs.length - k) k := by
      rw [List.drop_zero]
      exact List.take_of_length_le (by simp only [loose, mix_length, List.length_take, List.length_append]; have := S0.out.1; have := S1.out.1; omega)
    rw [hx] at hs7
    have K7 := Lib.hid h7.keeps
    have H7 := Lib.hid h7
    have HS := Lib.hid hs7
    have hle : n0 ≤ n0 + n := by omega
    have CS := Lib.hid (fun c d => same_any w7 (src_take hs7 hle) (h7.src S0.out) (by have e0 := S0.out.1; have e1 := HK.out; rw [← e0]; exact safe_head ys0 ys1 gs n k (by omega)) c d |>.mono (fun e w' h => (⟨h.1, h.2.symm⟩ : e = .returned (.bool true) ∧ w7 = w')))
    clear h7 hs7 hx
    go_wp2_with fail
    refine (CS.out _ _).mono ?_
    rintro e w7' ⟨rfl, rfl⟩
    have SB := Lib.hid (fun q : Nat => (H7.out.drewN q).src S1.out)
    have SA := Lib.hid (fun q : Nat => HS.out.later (w' := w7.drewN q) (fun _ _ => rfl))
    by_cases hw : n ≤ n3
    · rcases Nat.eq_zero_or_pos n with rfl | hp
      · cases a1 with
        | none =>
          obtain rfl : c1 = 0 := F1.out.2.2 rfl
          obtain rfl : n1 = 0 := by have := F1.out.1; omega
          go_wp2_with fail
          go_quiet ((go_at_call 17; exact Calls.quiet_of_same (same_any _ (src_zero _ _) (src_zero _ _) rfl _ _)))
          go_wp2
          go_ret
          exact ⟨rfl, K7.out.drewN _⟩
        | some ad =>
          go_wp2_with fail
          go_quiet ((go_at_call 17; exact Calls.quiet_of_same (same_any _ (src_zero _ _) (src_zero _ _) rfl _ _)))
          go_wp2
          go_ret
          exact ⟨rfl, K7.out.drewN _⟩
      · cases a1 with
        | none =>
          have := F1.out.1
          have := F1.out.2.2 rfl
          omega
        | some ad =>
          have hne : ¬ n0 + n = n0 := by omega
          go_wp2_with fail
          go_quiet ((go_at_call 17; exact Calls.quiet_of_same (same_any _ (src_zero _ _) (src_zero _ _) rfl _ _)))
          go_wp2
          go_ret
          exact ⟨rfl, K7.out.drewN _⟩
    · cases a1 with
      | none =>
        have := F1.out.1
        have := F1.out.2.2 rfl
        omega
      | some ad =>
        have hne : ¬ n0 + n = n0 := by omega
        have hc1 : n ≤ c1 := by have := F1.out.1; omega
        have CT := Lib.hid (fun (q c d : Nat) => show Calls Try.prog 17 #[.slice (some ⟨w6.heap.size, n0, none⟩) (n - n3) c, .slice (some ad) (n - n3) d] (w7.drewN q) (fun e w' => e = .returned (.bool true) ∧ w' = w7.drewN q) by
          have p1 := src_part (SA.out q) n0 (n - n3) (by omega)
          rw [Nat.zero_add] at p1
          refine same_any _ p1 (src_take (SB.out q) (by omega)) ?_ c d
          have e0 := S0.out.1
          have e1 := HK.out
          have e3 := S3.out.1
          have e4 := S1.out.1
          rw [← e0]
          exact safe_part ys0 ys1 gs n k (n - n3) (by omega) (by omega))
        go_wp2_with fail
        go_quiet ((go_at_call 17; exact Calls.quiet_of_same (CT.out _ _ _)))
        go_wp2
        go_ret
        exact ⟨rfl, K7.out.drewN _⟩
  · have d3 : decide (keep < 0) = false := by simpa using hkeep
    have d4 : decide (keep < (n0 : Int) + n - n0) = false := by have := hpos (by omega); simp; omega
    clear hneg hpos
    go_wp2_with fail
    refine C6.out.mono ?_
    rintro e w6' ⟨rfl, rfl⟩
    go_wp2_with fail
    refine C5.out.mono ?_
    rintro e w6' ⟨rfl, rfl⟩
    go_wp2_with fail
    refine C5.out.mono ?_
    rintro e w6' ⟨rfl, rfl⟩
    go_wp2_with fail
    refine C7.out.mono ?_
    rintro e w7 ⟨rfl, h7, hs7⟩
    have hx : List.take (n0 + n) (List.drop 0 (loose 4000 (mix ((ys0 ++ ys1).take (ys0.length + n)) gs (ys0.length + n - k) (gs.length - k) k) ((ys0.length + n : Nat) : Int)).xs) = mix ((ys0 ++ ys1).take (ys0.length + n)) gs (ys0.length + n - k) (gs.length - k) k := by
      rw [List.drop_zero]
      exact List.take_of_length_le (by simp only [loose, mix_length, List.length_take, List.length_append]; have := S0.out.1; have := S1.out.1; omega)
    rw [hx] at hs7
    have K7 := Lib.hid h7.keeps
    have H7 := Lib.hid h7
    have HS := Lib.hid hs7
    have hle : n0 ≤ n0 + n := by omega
    have CS := Lib.hid (fun c d => same_any w7 (src_take hs7 hle) (h7.src S0.out) (by have e0 := S0.out.1; have e1 := HK.out; rw [← e0]; exact safe_head ys0 ys1 gs n k (by omega)) c d |>.mono (fun e w' h => (⟨h.1, h.2.symm⟩ : e = .returned (.bool true) ∧ w7 = w')))
    clear h7 hs7 hx
    go_wp2_with fail
    refine (CS.out _ _).mono ?_
    rintro e w7' ⟨rfl, rfl⟩
    have SB := Lib.hid (fun q : Nat => (H7.out.drewN q).src S1.out)
    have SA := Lib.hid (fun q : Nat => HS.out.later (w' := w7.drewN q) (fun _ _ => rfl))
    by_cases hw : n ≤ n3
    · rcases Nat.eq_zero_or_pos n with rfl | hp
      · cases a1 with
        | none =>
          obtain rfl : c1 = 0 := F1.out.2.2 rfl
          obtain rfl : n1 = 0 := by have := F1.out.1; omega
          go_wp2_with fail
          go_quiet ((go_at_call 17; exact Calls.quiet_of_same (same_any _ (src_zero _ _) (src_zero _ _) rfl _ _)))
          go_wp2
          go_ret
          exact ⟨rfl, K7.out.drewN _⟩
        | some ad =>
          go_wp2_with fail
          go_quiet ((go_at_call 17; exact Calls.quiet_of_same (same_any _ (src_zero _ _) (src_zero _ _) rfl _ _)))
          go_wp2
          go_ret
          exact ⟨rfl, K7.out.drewN _⟩
      · cases a1 with
        | none =>
          have := F1.out.1
          have := F1.out.2.2 rfl
          omega
        | some ad =>
          have hne : ¬ n0 + n = n0 := by omega
          go_wp2_with fail
          go_quiet ((go_at_call 17; exact Calls.quiet_of_same (same_any _ (src_zero _ _) (src_zero _ _) rfl _ _)))
          go_wp2
          go_ret
          exact ⟨rfl, K7.out.drewN _⟩
    · cases a1 with
      | none =>
        have := F1.out.1
        have := F1.out.2.2 rfl
        omega
      | some ad =>
        have hne : ¬ n0 + n = n0 := by omega
        have hc1 : n ≤ c1 := by have := F1.out.1; omega
        have CT := Lib.hid (fun (q c d : Nat) => show Calls Try.prog 17 #[.slice (some ⟨w6.heap.size, n0, none⟩) (n - n3) c, .slice (some ad) (n - n3) d] (w7.drewN q) (fun e w' => e = .returned (.bool true) ∧ w' = w7.drewN q) by
          have p1 := src_part (SA.out q) n0 (n - n3) (by omega)
          rw [Nat.zero_add] at p1
          refine same_any _ p1 (src_take (SB.out q) (by omega)) ?_ c d
          have e0 := S0.out.1
          have e1 := HK.out
          have e3 := S3.out.1
          have e4 := S1.out.1
          rw [← e0]
          exact safe_part ys0 ys1 gs n k (n - n3) (by omega) (by omega))
        go_wp2_with fail
        go_quiet ((go_at_call 17; exact Calls.quiet_of_same (CT.out _ _ _)))
        go_wp2
        go_ret
        exact ⟨rfl, K7.out.drewN _⟩

/-! ### STEP 1: THE WALK: the Go text returns true, AND WRITES NOTHING THAT WAS THERE: 'Below w.heap.size w w'' (Derived/Below.lean: '.refl', '.alloc', '.drew', '.setCell' at a new block, '.trans'). Open each 'IsRow' by 'rcases' AHEAD of 'go_enter'; part every test ahead of the walk. -/
theorem walk (a0 : Option Addr) (len0 cap0 : Nat) (z0 : List Int) (a1 : Option Addr) (len1 cap1 : Nat) (z1 : List Int) (a2 : Int) (a3 : Option Addr) (len3 cap3 : Nat) (z3 : List Int) (w : World) (w0 : IsRow .u8 w a0 len0 cap0 z0) (w1 : IsRow .u8 w a1 len1 cap1 z1) (w2 : (Lit.int .i64 a2).wf = true) (w3 : IsRow .u8 w a3 len3 cap3 z3) :
    Calls Try.prog 4 #[.slice a0 len0 cap0, .slice a1 len1 cap1, .int .i64 a2, .slice a3 len3 cap3] w fun e w' => e = .returned (.bool true) ∧ Below w.heap.size w w' := by
  obtain ⟨hs0, hf0⟩ := src_of_row w0
  obtain ⟨hs1, hf1⟩ := src_of_row w1
  obtain ⟨hs3, hf3⟩ := src_of_row w3
  refine (main a0 len0 cap0 _ a1 len1 cap1 _ a2 a3 len3 cap3 _ w hs0 hf0 hs1 hf1 hs3 hf3).mono ?_
  rintro e w' ⟨he, hk⟩
  exact ⟨he, hk.below (Nat.le_refl _) (fun _ _ h => h)⟩

/-! ### THE ROW's STEP: WRITTEN OUT: LEAVE IT -/
set_option maxRecDepth 100000 in
theorem lifted (os : Os) (started : os.Started) (H : Type) (enc : TypeId × Value → H) :
    ReturnsInHanded {} Try.checked os 4 .any (Rows.reelSafeSpec.pre6 enc Try.prog Try.f4 Rows.reelSafeRow.domain false) (Rows.reelSafeSpec.post enc Try.prog Try.f4 false true false false) := by
  refine returnsInHanded_of_change (C := Try.checked) own started (by kernel_rfl) Try.func4
    (ChangeSpec.witness6 (enc := enc) (C := Try.checked) false ⟨#[], #[.slice none 0 0, .slice none 0 0, .int .i64 0, .slice none 0 0], []⟩ 8 (by kernel_rfl) (by kernel_rfl) (by kernel_rfl) (by kernel_rfl)) ?_
  intro W base args ds gs before hval0 hW hcnd _
  have hval : ∀ (j : Nat) t v, Try.f4.params[j]? = some t → args[j]? = some v → Value.okWide Try.prog W .any base t v := hval0
  have hW' := hW
  obtain ⟨p, q, hA0, hV, rfl, hfz, hnd⟩ := hW
  have hA : DataW.TrodAll enc Try.prog W 0 (fun _ => true) true Try.f4.params.toList args.toList ds p := hA0
  rw [Try.params4] at hA hval
  obtain ⟨v0, vs0, d0, ds0, p0, q0, hargs, rfl, rfl, h0, r0⟩ := trodAll_cons hA
  obtain ⟨v1, vs1, d1, ds1, p1, q1, rfl, rfl, rfl, h1, r1⟩ := trodAll_cons r0
  obtain ⟨v2, vs2, d2, ds2, p2, q2, rfl, rfl, rfl, h2, r2⟩ := trodAll_cons r1
  obtain ⟨v3, vs3, d3, ds3, p3, q3, rfl, rfl, rfl, h3, r3⟩ := trodAll_cons r2
  obtain ⟨rfl, rfl, rfl⟩ := trodAll_nil r3
  obtain rfl : args = #[v0, v1, v2, v3] := by cases args; simp_all
  obtain ⟨rfl, rfl⟩ := trodVars_none hV
  obtain ⟨a0, len0, cap0, rfl⟩ := okWide_slice Try.underlying27 (hval 0 27 v0 rfl rfl)
  have k0 := h0
  have lt0 : ∀ x ∈ p0, x.block < W.heap.size := by obtain ⟨m, hm⟩ := k0; exact DataW.trod_lt m _ _ _ hm
  obtain ⟨z0, w0⟩ : ∃ zs, IsRow .u8 W a0 len0 cap0 zs := by
    obtain ⟨fuel, hf⟩ := h0
    rcases open_ints Try.underlying27 Try.underlying5 (by kernel_rfl) hf with ⟨hcs, _⟩ | ⟨x, l, c, zs, hcs, _, hl, hm, hz, _, hcell, hwz⟩
    · simp [Value.cells] at hcs
      obtain ⟨rfl, rfl, rfl⟩ := hcs
      exact ⟨[], .inl ⟨rfl, rfl, rfl, rfl⟩⟩
    · simp [Value.cells] at hcs
      obtain ⟨rfl, rfl, rfl⟩ := hcs
      exact ⟨zs, .inr ⟨_, rfl, hl, hm, by simpa using hz, hcell, hwz⟩⟩
  obtain ⟨a1, len1, cap1, rfl⟩ := okWide_slice Try.underlying27 (hval 1 27 v1 rfl rfl)
  have k1 := h1
  have lt1 : ∀ x ∈ p1, x.block < W.heap.size := by obtain ⟨m, hm⟩ := k1; exact DataW.trod_lt m _ _ _ hm
  obtain ⟨z1, w1⟩ : ∃ zs, IsRow .u8 W a1 len1 cap1 zs := by
    obtain ⟨fuel, hf⟩ := h1
    rcases open_ints Try.underlying27 Try.underlying5 (by kernel_rfl) hf with ⟨hcs, _⟩ | ⟨x, l, c, zs, hcs, _, hl, hm, hz, _, hcell, hwz⟩
    · simp [Value.cells] at hcs
      obtain ⟨rfl, rfl, rfl⟩ := hcs
      exact ⟨[], .inl ⟨rfl, rfl, rfl, rfl⟩⟩
    · simp [Value.cells] at hcs
      obtain ⟨rfl, rfl, rfl⟩ := hcs
      exact ⟨zs, .inr ⟨_, rfl, hl, hm, by simpa using hz, hcell, hwz⟩⟩
  obtain ⟨a2, rfl, rfl, rfl, w2⟩ := open_int Try.underlying3 (hval 2 3 v2 rfl rfl) h2
  obtain ⟨a3, len3, cap3, rfl⟩ := okWide_slice Try.underlying27 (hval 3 27 v3 rfl rfl)
  have k3 := h3
  have lt3 : ∀ x ∈ p3, x.block < W.heap.size := by obtain ⟨m, hm⟩ := k3; exact DataW.trod_lt m _ _ _ hm
  obtain ⟨z3, w3⟩ : ∃ zs, IsRow .u8 W a3 len3 cap3 zs := by
    obtain ⟨fuel, hf⟩ := h3
    rcases open_ints Try.underlying27 Try.underlying5 (by kernel_rfl) hf with ⟨hcs, _⟩ | ⟨x, l, c, zs, hcs, _, hl, hm, hz, _, hcell, hwz⟩
    · simp [Value.cells] at hcs
      obtain ⟨rfl, rfl, rfl⟩ := hcs
      exact ⟨[], .inl ⟨rfl, rfl, rfl, rfl⟩⟩
    · simp [Value.cells] at hcs
      obtain ⟨rfl, rfl, rfl⟩ := hcs
      exact ⟨zs, .inr ⟨_, rfl, hl, hm, by simpa using hz, hcell, hwz⟩⟩
  clear hA0 hval0
  refine (walk a0 len0 cap0 z0 a1 len1 cap1 z1 a2 a3 len3 cap3 z3 W w0 w1 w2 w3).mono fun e W' ⟨he, bel⟩ => ?_
  subst he
  exact ⟨_, rfl, _, _, _, [], _, [], hW', trodAll_mk1 (shut_bool Try.underlying4 _), (trodAll_cons_mk (Below.trod laidOut (by kernel_rfl) (of_decide_eq_true (by kernel_rfl)) k0 bel lt0) (trodAll_cons_mk (Below.trod laidOut (by kernel_rfl) (of_decide_eq_true (by kernel_rfl)) k1 bel lt1) (trodAll_cons_mk (shut_int Try.underlying3 w2) (trodAll_cons_mk (Below.trod laidOut (by kernel_rfl) (of_decide_eq_true (by kernel_rfl)) k3 bel lt3) trodAll_mk0)))), rfl, bel.frame _, fun h => by cases h⟩

theorem over : Rows.reelSafeRow.holds Try.pinned (OpenSpec.ofChange Rows.reelSafeSpec) :=
  OpenClaim.holds_of_wide 4 Try.f4 rfl rfl rfl rfl rfl rfl rfl ⟨rfl, rfl, rfl, rfl, rfl⟩ rfl rfl rfl rfl rfl (by kernel_rfl) Try.func4 (by kernel_rfl)
    (of_decide_eq_true (by kernel_rfl)) (by unfold Func.isWrapper; first | (rw [if_pos (by decide +kernel)]; kernel_rfl) | (rw [if_neg (by decide +kernel)]; exact ⟨rfl, rfl⟩))
    (fun os started H enc _ => lifted os started H enc)

/-- ████ THE STATEMENT ████ -/
theorem proved : Rows.ReelSafeSaid := over
#print axioms proved
end Go.Proofs.Ytccfjpjhkaicgaa.reelSafe
