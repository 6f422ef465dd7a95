/-
  For every input the Go function ReelClones of the package scumblelaw01 returns true, and each of its arguments reads behind the call as it read before.
  Conditions: none beyond those of the row itself.
-/
import Derived.Test.YtccfjpjhkaicgaaRows
import Derived.Test.YtccfjpjhkaicgaaM
import Derived.WalkKit
import Derived.ProofKit
import Derived.OpenShut
import Derived.ShutString
import Derived.ChangeOld
import Derived.Below
namespace Go.Proofs.Ytccfjpjhkaicgaa.reelClones
open Go.ChangeShapes Go.WideShapes Go.ChangeAt Go.RowKit
open Go.ChangeMaps (open_string shut_string)
set_option linter.unusedVariables false

theorem own : ownKnob Try.prog.godebug = none := by kernel_rfl
theorem laidOut : laidOutB Try.prog = true := by kernel_rfl

/-- WHAT THE WALK IS TOLD OF A SLICE OF INTEGERS THAT CAME IN: it is nil; or it leads to a row of 'cap' cells, the numbers 'zs' (the first 'len' are its elements, the rest its spare room), each fitting its kind. -/
def IsRow (k : IntKind) (w : World) (a : Option Addr) (len cap : Nat) (zs : List Int) : Prop :=
  (a = none ∧ len = 0 ∧ cap = 0 ∧ zs = []) ∨
  ∃ x, a = some x ∧ len ≤ cap ∧ cap ≤ maxLen ∧ zs.length = cap ∧ (∀ i, i < zs.length → w.cell? (x.add i) = some (.int k (zs.getD i 0))) ∧ ∀ n ∈ zs, (Lit.int k n).wf = true

set_option maxHeartbeats 800000 in
/-- The law's walk. -/
theorem main (a0 : Option Addr) (n0 c0 : Nat) (ys0 : List Int) (a1 : Option Addr) (n1 c1 : Nat) (ys1 : List Int) (a2 : Option Addr) (n2 c2 : Nat) (ys2 : List Int) (w : World) (hs0 : Src w a0 n0 ys0) (hf0 : Fits a0 n0 c0) (hs1 : Src w a1 n1 ys1) (hf1 : Fits a1 n1 c1) (hs2 : Src w a2 n2 ys2) (hf2 : Fits a2 n2 c2) :
    Calls Try.prog 6 #[.slice a0 n0 c0, .slice a1 n1 c1, .slice a2 n2 c2] w (Yes w) := by
  have A := Lib.hid (anchor_any w)
  have S0 := Lib.hid hs0
  have S1 := Lib.hid hs1
  have S2 := Lib.hid hs2
  have F0 := Lib.hid hf0
  have F1 := Lib.hid hf1
  have F2 := Lib.hid hf2
  by_cases t0 : 1000 < n0
  · have t0' : decide ((1000 : Int) < n0) = true := by simp; omega
    clear hs0 hf0 hs1 hf1 hs2 hf2
    go_enter Try.func6, Try.ntmps6
    go_wp2_with fail
    refine A.out.mono ?_
    rintro e w1 ⟨rfl, hk⟩
    go_wp2_with fail
    go_ret
    exact ⟨rfl, hk⟩
  have t0' : decide ((1000 : Int) < n0) = false := by simp; omega
  by_cases t1 : 1000 < n1
  · have t1' : decide ((1000 : Int) < n1) = true := by simp; omega
    clear hs0 hf0 hs1 hf1 hs2 hf2
    go_enter Try.func6, Try.ntmps6
    go_wp2_with fail
    refine A.out.mono ?_
    rintro e w1 ⟨rfl, hk⟩
    go_wp2_with fail
    go_ret
    exact ⟨rfl, hk⟩
  have t1' : decide ((1000 : Int) < n1) = false := by simp; omega
  by_cases t2 : 1000 < n2
  · have t2' : decide ((1000 : Int) < n2) = true := by simp; omega
    clear hs0 hf0 hs1 hf1 hs2 hf2
    go_enter Try.func6, Try.ntmps6
    go_wp2_with fail
    refine A.out.mono ?_
    rintro e w1 ⟨rfl, hk⟩
    go_wp2_with fail
    go_ret
    exact ⟨rfl, hk⟩
  have t2' : decide ((1000 : Int) < n2) = false := by simp; omega
  clear hs0 hf0 hs1 hf1 hs2 hf2
  go_enter Try.func6, Try.ntmps6
  go_wp2_with fail
  refine A.out.mono ?_
  rintro e w1 ⟨rfl, hk⟩
  have N := Lib.hid (new_st hk 4000 (by omega) (by omega))
  clear hk
  go_wp2_with fail
  refine N.out.mono ?_
  rintro e w2 ⟨rfl, h2⟩
  have C := append_st h2 (h2.src S0.out) F0.out
  rw [new_loose, append_loose _ _ _ _ (by simp only [List.length_nil]; have := S0.out.1; omega), List.nil_append] at C
  have C := Lib.hid C
  clear h2
  go_wp2_with fail
  refine C.out.mono ?_
  rintro e w3 ⟨rfl, h3⟩
  have C2 := Lib.hid (clone_st2 h3)
  clear h3
  go_wp2_with fail
  refine C2.out.mono ?_
  rintro e w4 ⟨rfl, h4⟩
  have C3 := append_st2 h4 (h4.one.src S1.out) F1.out
  rw [append_loose _ _ _ _ (by have := S0.out.1; have := S1.out.1; omega)] at C3
  have C3 := Lib.hid C3
  clear h4
  go_wp2_with fail
  refine C3.out.mono ?_
  rintro e w5 ⟨rfl, h5⟩
  have C4 := append_st2 h5.swap (h5.one.src S2.out) F2.out
  rw [append_loose _ _ _ _ (by have := S0.out.1; have := S2.out.1; omega)] at C4
  have C4 := Lib.hid C4
  clear h5
  go_wp2_with fail
  refine C4.out.mono ?_
  rintro e w6 ⟨rfl, h6⟩
  have C5 := sync_st2 h6.swap
  rw [sync_loose] at C5
  have C5 := Lib.hid C5
  clear h6
  go_wp2_with fail
  refine C5.out.mono ?_
  rintro e w7 ⟨rfl, h7⟩
  have hl : (loose 4000 (ys0 ++ ys1) ((ys0 ++ ys1).length : Nat)).xs.length = n0 + n1 := by simp only [loose, List.length_append]; have := S0.out.1; have := S1.out.1; omega
  have C6 := size_st h7.one
  rw [hl] at C6
  have C7 := read_bl h7.one rfl 0 (n0 + n1) (by rw [hl]; omega)
  have C6 := Lib.hid C6
  have C7 := Lib.hid C7
  have H7 := Lib.hid h7
  clear h7 hl
  go_wp2_with fail
  refine C6.out.mono ?_
  rintro e w7' ⟨rfl, rfl⟩
  go_wp2_with fail
  refine C7.out.mono ?_
  rintro e w8 ⟨rfl, hb8, hs8⟩
  have h8 := H7.out.below hb8
  have hl : (loose 4000 (ys0 ++ ys2) 0).xs.length = n0 + n2 := by simp only [loose, List.length_append]; have := S0.out.1; have := S2.out.1; omega
  have C8 := size_st h8.swap.one
  rw [hl] at C8
  have C9 := read_bl h8.swap.one rfl 0 (n0 + n2) (by rw [hl]; omega)
  have C8 := Lib.hid C8
  have C9 := Lib.hid C9
  have H8 := Lib.hid h8
  have HS8 := Lib.hid hs8
  clear h8 hl hb8 hs8
  go_wp2_with fail
  refine C8.out.mono ?_
  rintro e w8' ⟨rfl, rfl⟩
  go_wp2_with fail
  refine C9.out.mono ?_
  rintro e w9 ⟨rfl, hb9, hs9⟩
  have h9 := H8.out.below hb9
  have hs8 : Src w9 (some ⟨w7.heap.size, 0, none⟩) (n0 + n1) _ := HS8.out.later (fun k hk => hb9.block k hk)
  have k1 := conv_src hs8 (n0 + n1)
  rw [show List.take (n0 + n1) (List.drop 0 (loose 4000 (ys0 ++ ys1) ((ys0 ++ ys1).length : Nat)).xs) = ys0 ++ ys1 by
    rw [List.drop_zero]
    exact List.take_of_length_le (by simp only [loose, List.length_append]; have := S0.out.1; have := S1.out.1; omega), strOf_append] at k1
  have k2 := conv_src hs9 (n0 + n2)
  rw [show List.take (n0 + n2) (List.drop 0 (loose 4000 (ys0 ++ ys2) 0).xs) = ys0 ++ ys2 by
    rw [List.drop_zero]
    exact List.take_of_length_le (by simp only [loose, List.length_append]; have := S0.out.1; have := S2.out.1; omega), strOf_append] at k2
  have k3 := conv_src (h9.one.src S0.out) c0
  have k4 := conv_src (h9.one.src S1.out) c1
  have k5 := conv_src (h9.one.src S2.out) c2
  have ka := fun w : World => run_string_add_sum (P := Try.prog) (w := w) (strOfNums ys0) (strOfNums ys1) (by rw [strOfNums_size, strOfNums_size]; have := S0.out.1; have := S1.out.1; omega)
  have kb := fun w : World => run_string_add_sum (P := Try.prog) (w := w) (strOfNums ys0) (strOfNums ys2) (by rw [strOfNums_size, strOfNums_size]; have := S0.out.1; have := S2.out.1; omega)
  have C10 := safe_st h9.swap.one
  rw [show (loose 4000 (ys0 ++ ys2) 0).safe = 0 from rfl] at C10
  have C11 := safe_st h9.one
  rw [show (loose 4000 (ys0 ++ ys1) ((ys0 ++ ys1).length : Nat)).safe = ((n0 + n1 : Nat) : Int) by simp only [loose, List.length_append]; have := S0.out.1; have := S1.out.1; omega] at C11
  have C10 := Lib.hid C10
  have C11 := Lib.hid C11
  have K := Lib.hid h9.one.keeps
  clear h9 hs8 hs9 hb9
  go_wp2_with fail
  refine C10.out.mono ?_
  rintro e w9' ⟨rfl, rfl⟩
  go_wp2_with fail
  refine C11.out.mono ?_
  rintro e w9'' ⟨rfl, rfl⟩
  go_wp2_with fail
  go_ret
  exact ⟨rfl, K.out⟩

/-! ### STEP 1: THE WALK: the Go text returns true, AND WRITES NOTHING THAT WAS THERE: 'Below w.heap.size w w'' (Derived/Below.lean: '.refl', '.alloc', '.drew', '.setCell' at a new block, '.trans'). Open each 'IsRow' by 'rcases' AHEAD of 'go_enter'; part every test ahead of the walk. -/
theorem walk (a0 : Option Addr) (len0 cap0 : Nat) (z0 : List Int) (a1 : Option Addr) (len1 cap1 : Nat) (z1 : List Int) (a2 : Option Addr) (len2 cap2 : Nat) (z2 : List Int) (w : World) (w0 : IsRow .u8 w a0 len0 cap0 z0) (w1 : IsRow .u8 w a1 len1 cap1 z1) (w2 : IsRow .u8 w a2 len2 cap2 z2) :
    Calls Try.prog 6 #[.slice a0 len0 cap0, .slice a1 len1 cap1, .slice a2 len2 cap2] w fun e w' => e = .returned (.bool true) ∧ Below w.heap.size w w' := by
  obtain ⟨hs0, hf0⟩ := src_of_row w0
  obtain ⟨hs1, hf1⟩ := src_of_row w1
  obtain ⟨hs2, hf2⟩ := src_of_row w2
  refine (main a0 len0 cap0 _ a1 len1 cap1 _ a2 len2 cap2 _ w hs0 hf0 hs1 hf1 hs2 hf2).mono ?_
  rintro e w' ⟨he, hk⟩
  exact ⟨he, hk.below (Nat.le_refl _) (fun _ _ h => h)⟩

/-! ### THE ROW's STEP: WRITTEN OUT: LEAVE IT -/
set_option maxRecDepth 100000 in
theorem lifted (os : Os) (started : os.Started) (H : Type) (enc : TypeId × Value → H) :
    ReturnsInHanded {} Try.checked os 6 .any (Rows.reelClonesSpec.pre6 enc Try.prog Try.f6 Rows.reelClonesRow.domain false) (Rows.reelClonesSpec.post enc Try.prog Try.f6 false true false false) := by
  refine returnsInHanded_of_change (C := Try.checked) own started (by kernel_rfl) Try.func6
    (ChangeSpec.witness6 (enc := enc) (C := Try.checked) false ⟨#[], #[.slice none 0 0, .slice none 0 0, .slice none 0 0], []⟩ 8 (by kernel_rfl) (by kernel_rfl) (by kernel_rfl) (by kernel_rfl)) ?_
  intro W base args ds gs before hval0 hW hcnd _
  have hval : ∀ (j : Nat) t v, Try.f6.params[j]? = some t → args[j]? = some v → Value.okWide Try.prog W .any base t v := hval0
  have hW' := hW
  obtain ⟨p, q, hA0, hV, rfl, hfz, hnd⟩ := hW
  have hA : DataW.TrodAll enc Try.prog W 0 (fun _ => true) true Try.f6.params.toList args.toList ds p := hA0
  rw [Try.params6] at hA hval
  obtain ⟨v0, vs0, d0, ds0, p0, q0, hargs, rfl, rfl, h0, r0⟩ := trodAll_cons hA
  obtain ⟨v1, vs1, d1, ds1, p1, q1, rfl, rfl, rfl, h1, r1⟩ := trodAll_cons r0
  obtain ⟨v2, vs2, d2, ds2, p2, q2, rfl, rfl, rfl, h2, r2⟩ := trodAll_cons r1
  obtain ⟨rfl, rfl, rfl⟩ := trodAll_nil r2
  obtain rfl : args = #[v0, v1, v2] := by cases args; simp_all
  obtain ⟨rfl, rfl⟩ := trodVars_none hV
  obtain ⟨a0, len0, cap0, rfl⟩ := okWide_slice Try.underlying27 (hval 0 27 v0 rfl rfl)
  have k0 := h0
  have lt0 : ∀ x ∈ p0, x.block < W.heap.size := by obtain ⟨m, hm⟩ := k0; exact DataW.trod_lt m _ _ _ hm
  obtain ⟨z0, w0⟩ : ∃ zs, IsRow .u8 W a0 len0 cap0 zs := by
    obtain ⟨fuel, hf⟩ := h0
    rcases open_ints Try.underlying27 Try.underlying5 (by kernel_rfl) hf with ⟨hcs, _⟩ | ⟨x, l, c, zs, hcs, _, hl, hm, hz, _, hcell, hwz⟩
    · simp [Value.cells] at hcs
      obtain ⟨rfl, rfl, rfl⟩ := hcs
      exact ⟨[], .inl ⟨rfl, rfl, rfl, rfl⟩⟩
    · simp [Value.cells] at hcs
      obtain ⟨rfl, rfl, rfl⟩ := hcs
      exact ⟨zs, .inr ⟨_, rfl, hl, hm, by simpa using hz, hcell, hwz⟩⟩
  obtain ⟨a1, len1, cap1, rfl⟩ := okWide_slice Try.underlying27 (hval 1 27 v1 rfl rfl)
  have k1 := h1
  have lt1 : ∀ x ∈ p1, x.block < W.heap.size := by obtain ⟨m, hm⟩ := k1; exact DataW.trod_lt m _ _ _ hm
  obtain ⟨z1, w1⟩ : ∃ zs, IsRow .u8 W a1 len1 cap1 zs := by
    obtain ⟨fuel, hf⟩ := h1
    rcases open_ints Try.underlying27 Try.underlying5 (by kernel_rfl) hf with ⟨hcs, _⟩ | ⟨x, l, c, zs, hcs, _, hl, hm, hz, _, hcell, hwz⟩
    · simp [Value.cells] at hcs
      obtain ⟨rfl, rfl, rfl⟩ := hcs
      exact ⟨[], .inl ⟨rfl, rfl, rfl, rfl⟩⟩
    · simp [Value.cells] at hcs
      obtain ⟨rfl, rfl, rfl⟩ := hcs
      exact ⟨zs, .inr ⟨_, rfl, hl, hm, by simpa using hz, hcell, hwz⟩⟩
  obtain ⟨a2, len2, cap2, rfl⟩ := okWide_slice Try.underlying27 (hval 2 27 v2 rfl rfl)
  have k2 := h2
  have lt2 : ∀ x ∈ p2, x.block < W.heap.size := by obtain ⟨m, hm⟩ := k2; exact DataW.trod_lt m _ _ _ hm
  obtain ⟨z2, w2⟩ : ∃ zs, IsRow .u8 W a2 len2 cap2 zs := by
    obtain ⟨fuel, hf⟩ := h2
    rcases open_ints Try.underlying27 Try.underlying5 (by kernel_rfl) hf with ⟨hcs, _⟩ | ⟨x, l, c, zs, hcs, _, hl, hm, hz, _, hcell, hwz⟩
    · simp [Value.cells] at hcs
      obtain ⟨rfl, rfl, rfl⟩ := hcs
      exact ⟨[], .inl ⟨rfl, rfl, rfl, rfl⟩⟩
    · simp [Value.cells] at hcs
      obtain ⟨rfl, rfl, rfl⟩ := hcs
      exact ⟨zs, .inr ⟨_, rfl, hl, hm, by simpa using hz, hcell, hwz⟩⟩
  clear hA0 hval0
  refine (walk a0 len0 cap0 z0 a1 len1 cap1 z1 a2 len2 cap2 z2 W w0 w1 w2).mono fun e W' ⟨he, bel⟩ => ?_
  subst he
  exact ⟨_, rfl, _, _, _, [], _, [], hW', trodAll_mk1 (shut_bool Try.underlying4 _), (trodAll_cons_mk (Below.trod laidOut (by kernel_rfl) (of_decide_eq_true (by kernel_rfl)) k0 bel lt0) (trodAll_cons_mk (Below.trod laidOut (by kernel_rfl) (of_decide_eq_true (by kernel_rfl)) k1 bel lt1) (trodAll_cons_mk (Below.trod laidOut (by kernel_rfl) (of_decide_eq_true (by kernel_rfl)) k2 bel lt2) trodAll_mk0))), rfl, bel.frame _, fun h => by cases h⟩

theorem over : Rows.reelClonesRow.holds Try.pinned (OpenSpec.ofChange Rows.reelClonesSpec) :=
  OpenClaim.holds_of_wide 6 Try.f6 rfl rfl rfl rfl rfl rfl rfl ⟨rfl, rfl, rfl, rfl, rfl⟩ rfl rfl rfl rfl rfl (by kernel_rfl) Try.func6 (by kernel_rfl)
    (of_decide_eq_true (by kernel_rfl)) (by unfold Func.isWrapper; first | (rw [if_pos (by decide +kernel)]; kernel_rfl) | (rw [if_neg (by decide +kernel)]; exact ⟨rfl, rfl⟩))
    (fun os started H enc _ => lifted os started H enc)

/-- ████ THE STATEMENT ████ -/
theorem proved : Rows.ReelClonesSaid := over
#print axioms proved
end Go.Proofs.Ytccfjpjhkaicgaa.reelClones
