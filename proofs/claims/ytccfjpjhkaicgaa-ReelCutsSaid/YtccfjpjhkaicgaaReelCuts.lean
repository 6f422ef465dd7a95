/-
  For every input the Go function ReelCuts of the package scumblelaw01 returns true, and each of its arguments reads behind the call as it read before.
  Conditions: none beyond those of the row itself.
-/
import Derived.Test.YtccfjpjhkaicgaaRows
import Derived.Test.YtccfjpjhkaicgaaL
import Derived.WalkKit
import Derived.ProofKit
import Derived.OpenShut
import Derived.ShutString
import Derived.ChangeOld
import Derived.Below
namespace Go.Proofs.Ytccfjpjhkaicgaa.reelCuts
open Go.ChangeShapes Go.WideShapes Go.ChangeAt Go.RowKit
open Go.ChangeMaps (open_string shut_string)
set_option linter.unusedVariables false

theorem own : ownKnob Try.prog.godebug = none := by kernel_rfl
theorem laidOut : laidOutB Try.prog = true := by kernel_rfl

/-- WHAT THE WALK IS TOLD OF A SLICE OF INTEGERS THAT CAME IN: it is nil; or it leads to a row of 'cap' cells, the numbers 'zs' (the first 'len' are its elements, the rest its spare room), each fitting its kind. -/
def IsRow (k : IntKind) (w : World) (a : Option Addr) (len cap : Nat) (zs : List Int) : Prop :=
  (a = none ∧ len = 0 ∧ cap = 0 ∧ zs = []) ∨
  ∃ x, a = some x ∧ len ≤ cap ∧ cap ≤ maxLen ∧ zs.length = cap ∧ (∀ i, i < zs.length → w.cell? (x.add i) = some (.int k (zs.getD i 0))) ∧ ∀ n ∈ zs, (Lit.int k n).wf = true

set_option maxHeartbeats 800000 in
/-- The law's walk. -/
theorem main (a0 : Option Addr) (n0 c0 : Nat) (ys0 : List Int) (a1 : Int) (a2 : Option Addr) (n2 c2 : Nat) (ys2 : List Int) (sync : Bool) (w : World) (hs0 : Src w a0 n0 ys0) (hf0 : Fits a0 n0 c0) (hs2 : Src w a2 n2 ys2) (hf2 : Fits a2 n2 c2) :
    Calls Try.prog 7 #[.slice a0 n0 c0, .int .i64 a1, .slice a2 n2 c2, .bool sync] w (Yes w) := by
  have A := Lib.hid (anchor_any w)
  have S0 := Lib.hid hs0
  have S2 := Lib.hid hs2
  have F0 := Lib.hid hf0
  have F2 := Lib.hid hf2
  by_cases t0 : 1500 < n0
  · have t0' : decide ((1500 : Int) < n0) = true := by simp; omega
    clear hs0 hf0 hs2 hf2
    go_enter Try.func7, Try.ntmps7
    go_wp2_with fail
    refine A.out.mono ?_
    rintro e w1 ⟨rfl, hk⟩
    go_wp2_with fail
    go_ret
    exact ⟨rfl, hk⟩
  have t0' : decide ((1500 : Int) < n0) = false := by simp; omega
  by_cases t2 : 1500 < n2
  · have t2' : decide ((1500 : Int) < n2) = true := by simp; omega
    clear hs0 hf0 hs2 hf2
    go_enter Try.func7, Try.ntmps7
    go_wp2_with fail
    refine A.out.mono ?_
    rintro e w1 ⟨rfl, hk⟩
    go_wp2_with fail
    go_ret
    exact ⟨rfl, hk⟩
  have t2' : decide ((1500 : Int) < n2) = false := by simp; omega
  by_cases t1 : a1 < 0
  · have t1' : decide (a1 < 0) = true := by simpa using t1
    clear hs0 hf0 hs2 hf2
    go_enter Try.func7, Try.ntmps7
    go_wp2_with fail
    refine A.out.mono ?_
    rintro e w1 ⟨rfl, hk⟩
    go_wp2_with fail
    go_ret
    exact ⟨rfl, hk⟩
  have t1' : decide (a1 < 0) = false := by simpa using t1
  by_cases t3 : (n0 : Int) < a1
  · have t3' : decide ((n0 : Int) < a1) = true := by simpa using t3
    clear hs0 hf0 hs2 hf2
    go_enter Try.func7, Try.ntmps7
    go_wp2_with fail
    refine A.out.mono ?_
    rintro e w1 ⟨rfl, hk⟩
    go_wp2_with fail
    go_ret
    exact ⟨rfl, hk⟩
  obtain ⟨k, rfl⟩ := Int.eq_ofNat_of_zero_le (show 0 ≤ a1 by omega)
  have t3' : decide ((n0 : Int) < k) = false := by simp; omega
  have hk0 : k ≤ n0 := by omega
  clear hs0 hf0 hs2 hf2 t1 t3
  cases sync with
  | true =>
    go_enter Try.func7, Try.ntmps7
    go_wp2_with fail
    refine A.out.mono ?_
    rintro e w1 ⟨rfl, hk⟩
    have N := Lib.hid (new_st hk 3000 (by omega) (by omega))
    clear hk
    go_wp2_with fail
    refine N.out.mono ?_
    rintro e w2 ⟨rfl, h2⟩
    have C := append_st h2 (h2.src S0.out) F0.out
    rw [new_loose, append_loose _ _ _ _ (by simp only [List.length_nil]; have := S0.out.1; omega), List.nil_append] at C
    have C := Lib.hid C
    clear h2
    go_wp2_with fail
    refine C.out.mono ?_
    rintro e w3 ⟨rfl, h3⟩
    have C2 := sync_st h3
    rw [sync_loose] at C2
    have C2 := Lib.hid C2
    clear h3
    go_wp2_with fail
    refine C2.out.mono ?_
    rintro e w3 ⟨rfl, h3⟩
    have C3 := cut_st h3 k
    rw [cut_loose _ _ _ _ (by have := S0.out.1; omega)] at C3
    have C3 := Lib.hid C3
    clear h3
    go_wp2_with fail
    refine C3.out.mono ?_
    rintro e w4 ⟨rfl, h4⟩
    have C4 := append_st h4 (h4.src S2.out) F2.out
    rw [append_loose _ _ _ _ (by rw [List.length_take]; have := S0.out.1; have := S2.out.1; omega)] at C4
    have C4 := Lib.hid C4
    clear h4
    go_wp2_with fail
    refine C4.out.mono ?_
    rintro e w5 ⟨rfl, h5⟩
    have C5 := size_st h5
    have hl : (loose 3000 (ys0.take k ++ ys2) (min (ys0.length : Int) k)).xs.length = k + n2 := by simp only [loose, List.length_append, List.length_take]; have := S0.out.1; have := S2.out.1; omega
    rw [hl] at C5
    have C6 := read_st h5 rfl 0 (k + n2) (by rw [hl]; omega)
    have C5 := Lib.hid C5
    have C6 := Lib.hid C6
    clear h5 hl
    go_wp2_with fail
    refine C5.out.mono ?_
    rintro e w5' ⟨rfl, rfl⟩
    go_wp2_with fail
    refine C6.out.mono ?_
    rintro e w6 ⟨rfl, h6, hs6⟩
    have kb := fun q : Nat => conv_src (hs6.later (w' := w6.drewN q) (fun _ _ => rfl)) (k + n2)
    have hx : List.take (k + n2) (List.drop 0 (loose 3000 (ys0.take k ++ ys2) (min (ys0.length : Int) k)).xs) = ys0.take k ++ ys2 := by
      rw [List.drop_zero]
      exact List.take_of_length_le (by simp only [loose, List.length_append, List.length_take]; have := S0.out.1; have := S2.out.1; omega)
    rw [hx, strOf_append] at kb
    have k2 := fun q : Nat => conv_src ((h6.drewN q).src S2.out) c2
    have e7 : (loose 3000 (ys0.take k ++ ys2) (min (ys0.length : Int) k)).safe = (k : Int) := by simp only [loose]; have := S0.out.1; omega
    have C7 := Lib.hid (fun q : Nat => (safe_st (h6.drewN q)).mono (fun e w' h => (⟨h.1.trans (by rw [e7]), h.2.symm⟩ : e = .returned (.int .i64 ((k : Int))) ∧ w' = w6.drewN q)))
    have K6 := Lib.hid h6.keeps
    have HS6 := Lib.hid hs6
    have ka := fun w : World => run_string_add_sum (P := Try.prog) (w := w) (strOfNums (ys0.take k)) (strOfNums ys2) (by rw [strOfNums_size, strOfNums_size, List.length_take]; have := S0.out.1; have := S2.out.1; omega)
    have k0 := fun q : Nat => conv_src (src_take ((h6.drewN q).src S0.out) hk0) c0
    have hkc : k ≤ c0 := by have := F0.out.1; omega
    clear hs6 hx h6 e7
    go_wp2_with fail
    cases a0 with
    | none =>
      obtain rfl : n0 = 0 := by
        rcases S0.out.2.2 with h | ⟨ad, h, _⟩
        · exact h.2
        · cases h
      obtain rfl : c0 = 0 := F0.out.2.2 rfl
      obtain rfl : k = 0 := by omega
      simp only [Nat.zero_add, List.take_zero] at kb ka k0
      clear hk0 hkc
      go_quiet ((go_at_call 12; exact Calls.quiet_of_same (C7.out _)))
      go_wp2
      go_ret
      exact ⟨rfl, K6.out.drewN _⟩
    | some ad =>
      go_quiet ((go_at_call 12; exact Calls.quiet_of_same (C7.out _)))
      go_wp2
      go_ret
      exact ⟨rfl, K6.out.drewN _⟩
  | false =>
    go_enter Try.func7, Try.ntmps7
    go_wp2_with fail
    refine A.out.mono ?_
    rintro e w1 ⟨rfl, hk⟩
    have N := Lib.hid (new_st hk 3000 (by omega) (by omega))
    clear hk
    go_wp2_with fail
    refine N.out.mono ?_
    rintro e w2 ⟨rfl, h2⟩
    have C := append_st h2 (h2.src S0.out) F0.out
    rw [new_loose, append_loose _ _ _ _ (by simp only [List.length_nil]; have := S0.out.1; omega), List.nil_append] at C
    have C := Lib.hid C
    clear h2
    go_wp2_with fail
    refine C.out.mono ?_
    rintro e w3 ⟨rfl, h3⟩
    have C3 := cut_st h3 k
    rw [cut_loose _ _ _ _ (by have := S0.out.1; omega)] at C3
    have C3 := Lib.hid C3
    clear h3
    go_wp2_with fail
    refine C3.out.mono ?_
    rintro e w4 ⟨rfl, h4⟩
    have C4 := append_st h4 (h4.src S2.out) F2.out
    rw [append_loose _ _ _ _ (by rw [List.length_take]; have := S0.out.1; have := S2.out.1; omega)] at C4
    have C4 := Lib.hid C4
    clear h4
    go_wp2_with fail
    refine C4.out.mono ?_
    rintro e w5 ⟨rfl, h5⟩
    have C5 := size_st h5
    have hl : (loose 3000 (ys0.take k ++ ys2) (min 0 (k : Int))).xs.length = k + n2 := by simp only [loose, List.length_append, List.length_take]; have := S0.out.1; have := S2.out.1; omega
    rw [hl] at C5
    have C6 := read_st h5 rfl 0 (k + n2) (by rw [hl]; omega)
    have C5 := Lib.hid C5
    have C6 := Lib.hid C6
    clear h5 hl
    go_wp2_with fail
    refine C5.out.mono ?_
    rintro e w5' ⟨rfl, rfl⟩
    go_wp2_with fail
    refine C6.out.mono ?_
    rintro e w6 ⟨rfl, h6, hs6⟩
    have kb := fun q : Nat => conv_src (hs6.later (w' := w6.drewN q) (fun _ _ => rfl)) (k + n2)
    have hx : List.take (k + n2) (List.drop 0 (loose 3000 (ys0.take k ++ ys2) (min 0 (k : Int))).xs) = ys0.take k ++ ys2 := by
      rw [List.drop_zero]
      exact List.take_of_length_le (by simp only [loose, List.length_append, List.length_take]; have := S0.out.1; have := S2.out.1; omega)
    rw [hx, strOf_append] at kb
    have k2 := fun q : Nat => conv_src ((h6.drewN q).src S2.out) c2
    have e7 : (loose 3000 (ys0.take k ++ ys2) (min 0 (k : Int))).safe = 0 := by simp only [loose]; have := S0.out.1; omega
    have C7 := Lib.hid (fun q : Nat => (safe_st (h6.drewN q)).mono (fun e w' h => (⟨h.1.trans (by rw [e7]), h.2.symm⟩ : e = .returned (.int .i64 (0)) ∧ w' = w6.drewN q)))
    have K6 := Lib.hid h6.keeps
    have HS6 := Lib.hid hs6
    have ka := fun w : World => run_string_add_sum (P := Try.prog) (w := w) (strOfNums (ys0.take k)) (strOfNums ys2) (by rw [strOfNums_size, strOfNums_size, List.length_take]; have := S0.out.1; have := S2.out.1; omega)
    have k0 := fun q : Nat => conv_src (src_take ((h6.drewN q).src S0.out) hk0) c0
    have hkc : k ≤ c0 := by have := F0.out.1; omega
    clear hs6 hx h6 e7
    go_wp2_with fail
    cases a0 with
    | none =>
      obtain rfl : n0 = 0 := by
        rcases S0.out.2.2 with h | ⟨ad, h, _⟩
        · exact h.2
        · cases h
      obtain rfl : c0 = 0 := F0.out.2.2 rfl
      obtain rfl : k = 0 := by omega
      simp only [Nat.zero_add, List.take_zero] at kb ka k0
      clear hk0 hkc
      go_quiet ((go_at_call 12; exact Calls.quiet_of_same (C7.out _)))
      go_wp2
      go_ret
      exact ⟨rfl, K6.out.drewN _⟩
    | some ad =>
      go_quiet ((go_at_call 12; exact Calls.quiet_of_same (C7.out _)))
      go_wp2
      go_ret
      exact ⟨rfl, K6.out.drewN _⟩

/-! ### STEP 1: THE WALK: the Go text returns true, AND WRITES NOTHING THAT WAS THERE: 'Below w.heap.size w w'' (Derived/Below.lean: '.refl', '.alloc', '.drew', '.setCell' at a new block, '.trans'). Open each 'IsRow' by 'rcases' AHEAD of 'go_enter'; part every test ahead of the walk. -/
theorem walk (a0 : Option Addr) (len0 cap0 : Nat) (z0 : List Int) (a1 : Int) (a2 : Option Addr) (len2 cap2 : Nat) (z2 : List Int) (a3 : Bool) (w : World) (w0 : IsRow .u8 w a0 len0 cap0 z0) (w1 : (Lit.int .i64 a1).wf = true) (w2 : IsRow .u8 w a2 len2 cap2 z2) :
    Calls Try.prog 7 #[.slice a0 len0 cap0, .int .i64 a1, .slice a2 len2 cap2, .bool a3] w fun e w' => e = .returned (.bool true) ∧ Below w.heap.size w w' := by
  obtain ⟨hs0, hf0⟩ := src_of_row w0
  obtain ⟨hs2, hf2⟩ := src_of_row w2
  refine (main a0 len0 cap0 _ a1 a2 len2 cap2 _ a3 w hs0 hf0 hs2 hf2).mono ?_
  rintro e w' ⟨he, hk⟩
  exact ⟨he, hk.below (Nat.le_refl _) (fun _ _ h => h)⟩

/-! ### THE ROW's STEP: WRITTEN OUT: LEAVE IT -/
set_option maxRecDepth 100000 in
theorem lifted (os : Os) (started : os.Started) (H : Type) (enc : TypeId × Value → H) :
    ReturnsInHanded {} Try.checked os 7 .any (Rows.reelCutsSpec.pre6 enc Try.prog Try.f7 Rows.reelCutsRow.domain false) (Rows.reelCutsSpec.post enc Try.prog Try.f7 false true false false) := by
  refine returnsInHanded_of_change (C := Try.checked) own started (by kernel_rfl) Try.func7
    (ChangeSpec.witness6 (enc := enc) (C := Try.checked) false ⟨#[], #[.slice none 0 0, .int .i64 0, .slice none 0 0, .bool false], []⟩ 8 (by kernel_rfl) (by kernel_rfl) (by kernel_rfl) (by kernel_rfl)) ?_
  intro W base args ds gs before hval0 hW hcnd _
  have hval : ∀ (j : Nat) t v, Try.f7.params[j]? = some t → args[j]? = some v → Value.okWide Try.prog W .any base t v := hval0
  have hW' := hW
  obtain ⟨p, q, hA0, hV, rfl, hfz, hnd⟩ := hW
  have hA : DataW.TrodAll enc Try.prog W 0 (fun _ => true) true Try.f7.params.toList args.toList ds p := hA0
  rw [Try.params7] at hA hval
  obtain ⟨v0, vs0, d0, ds0, p0, q0, hargs, rfl, rfl, h0, r0⟩ := trodAll_cons hA
  obtain ⟨v1, vs1, d1, ds1, p1, q1, rfl, rfl, rfl, h1, r1⟩ := trodAll_cons r0
  obtain ⟨v2, vs2, d2, ds2, p2, q2, rfl, rfl, rfl, h2, r2⟩ := trodAll_cons r1
  obtain ⟨v3, vs3, d3, ds3, p3, q3, rfl, rfl, rfl, h3, r3⟩ := trodAll_cons r2
  obtain ⟨rfl, rfl, rfl⟩ := trodAll_nil r3
  obtain rfl : args = #[v0, v1, v2, v3] := by cases args; simp_all
  obtain ⟨rfl, rfl⟩ := trodVars_none hV
  obtain ⟨a0, len0, cap0, rfl⟩ := okWide_slice Try.underlying27 (hval 0 27 v0 rfl rfl)
  have k0 := h0
  have lt0 : ∀ x ∈ p0, x.block < W.heap.size := by obtain ⟨m, hm⟩ := k0; exact DataW.trod_lt m _ _ _ hm
  obtain ⟨z0, w0⟩ : ∃ zs, IsRow .u8 W a0 len0 cap0 zs := by
    obtain ⟨fuel, hf⟩ := h0
    rcases open_ints Try.underlying27 Try.underlying5 (by kernel_rfl) hf with ⟨hcs, _⟩ | ⟨x, l, c, zs, hcs, _, hl, hm, hz, _, hcell, hwz⟩
    · simp [Value.cells] at hcs
      obtain ⟨rfl, rfl, rfl⟩ := hcs
      exact ⟨[], .inl ⟨rfl, rfl, rfl, rfl⟩⟩
    · simp [Value.cells] at hcs
      obtain ⟨rfl, rfl, rfl⟩ := hcs
      exact ⟨zs, .inr ⟨_, rfl, hl, hm, by simpa using hz, hcell, hwz⟩⟩
  obtain ⟨a1, rfl, rfl, rfl, w1⟩ := open_int Try.underlying3 (hval 1 3 v1 rfl rfl) h1
  obtain ⟨a2, len2, cap2, rfl⟩ := okWide_slice Try.underlying27 (hval 2 27 v2 rfl rfl)
  have k2 := h2
  have lt2 : ∀ x ∈ p2, x.block < W.heap.size := by obtain ⟨m, hm⟩ := k2; exact DataW.trod_lt m _ _ _ hm
  obtain ⟨z2, w2⟩ : ∃ zs, IsRow .u8 W a2 len2 cap2 zs := by
    obtain ⟨fuel, hf⟩ := h2
    rcases open_ints Try.underlying27 Try.underlying5 (by kernel_rfl) hf with ⟨hcs, _⟩ | ⟨x, l, c, zs, hcs, _, hl, hm, hz, _, hcell, hwz⟩
    · simp [Value.cells] at hcs
      obtain ⟨rfl, rfl, rfl⟩ := hcs
      exact ⟨[], .inl ⟨rfl, rfl, rfl, rfl⟩⟩
    · simp [Value.cells] at hcs
      obtain ⟨rfl, rfl, rfl⟩ := hcs
      exact ⟨zs, .inr ⟨_, rfl, hl, hm, by simpa using hz, hcell, hwz⟩⟩
  obtain ⟨a3, rfl, rfl, rfl⟩ := open_bool Try.underlying4 (hval 3 4 v3 rfl rfl) h3
  clear hA0 hval0
  refine (walk a0 len0 cap0 z0 a1 a2 len2 cap2 z2 a3 W w0 w1 w2).mono fun e W' ⟨he, bel⟩ => ?_
  subst he
  exact ⟨_, rfl, _, _, _, [], _, [], hW', trodAll_mk1 (shut_bool Try.underlying4 _), (trodAll_cons_mk (Below.trod laidOut (by kernel_rfl) (of_decide_eq_true (by kernel_rfl)) k0 bel lt0) (trodAll_cons_mk (shut_int Try.underlying3 w1) (trodAll_cons_mk (Below.trod laidOut (by kernel_rfl) (of_decide_eq_true (by kernel_rfl)) k2 bel lt2) (trodAll_cons_mk (shut_bool Try.underlying4 _) trodAll_mk0)))), rfl, bel.frame _, fun h => by cases h⟩

theorem over : Rows.reelCutsRow.holds Try.pinned (OpenSpec.ofChange Rows.reelCutsSpec) :=
  OpenClaim.holds_of_wide 7 Try.f7 rfl rfl rfl rfl rfl rfl rfl ⟨rfl, rfl, rfl, rfl, rfl⟩ rfl rfl rfl rfl rfl (by kernel_rfl) Try.func7 (by kernel_rfl)
    (of_decide_eq_true (by kernel_rfl)) (by unfold Func.isWrapper; first | (rw [if_pos (by decide +kernel)]; kernel_rfl) | (rw [if_neg (by decide +kernel)]; exact ⟨rfl, rfl⟩))
    (fun os started H enc _ => lifted os started H enc)

/-- ████ THE STATEMENT ████ -/
theorem proved : Rows.ReelCutsSaid := over
#print axioms proved
end Go.Proofs.Ytccfjpjhkaicgaa.reelCuts
