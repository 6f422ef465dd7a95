/- The laws' own functions: plain (24), same (25); an empty row of its own. -/
import Derived.Test.YtfcndldobjpbnaaLA
namespace Go.Proofs.Ytfcndldobjpbnaa
open Go.RowKit Go.Maps
set_option linter.unusedVariables false

theorem plain_any (W H : Int) (a : Option Addr) (n c : Nat) (w : World) : Calls Try.prog 24 #[.agg #[.int .i64 W, .int .i64 H, .slice a n c]] w fun e w' => e = .returned (.agg #[.int .i64 W, .int .i64 H, .slice a n c]) ∧ Keeps none' w w' := by
  have P0 := Lib.hid ((PicB.new w 44 W H a n c).alloc (.cells #[.int .i64 0, .int .i64 0, .slice none 0 0] 47))
  have R0 := Lib.hid (PicB.new (w.alloc (.cells #[.int .i64 W, .int .i64 H, .slice a n c] 44)) 47 0 0 none 0 0)
  have K0 := Lib.hid (((Keeps.refl none' w).alloc (.cells #[.int .i64 W, .int .i64 H, .slice a n c] 44)).alloc (.cells #[.int .i64 0, .int .i64 0, .slice none 0 0] 47))
  have hs : (w.alloc (.cells #[.int .i64 W, .int .i64 H, .slice a n c] 44)).heap.size = w.heap.size + 1 := by simp
  rw [hs] at R0
  clear hs
  have c0 := P0.out.c0
  have c1 := P0.out.c1
  have c2 := P0.out.c2
  have d0 := R0.out.c0
  have d1 := R0.out.c1
  have d2 := R0.out.c2
  have f0 := R0.out.fr (i := 0)
  have f1 := R0.out.fr (i := 1)
  have f2 := R0.out.fr (i := 2)
  go_enter Try.func24, Try.ntmps24
  go_upto_region 1 with (fail)
  have hR : w.heap.size ≤ w.heap.size + 1 := by omega
  generalize (w.alloc (.cells #[.int .i64 W, .int .i64 H, .slice a n c] 44)).alloc (.cells #[.int .i64 0, .int .i64 0, .slice none 0 0] 47) = w1 at *
  generalize w.heap.size + 1 = R at *
  have U := Lib.hid (R0.out.all W H a n c)
  have KU := Lib.hid (((K0.out.setCell (p := ⟨R, 0, none⟩) (fun e => by simp only at e; omega) (.int .i64 W)).setCell (p := ⟨R, 1, none⟩) (fun e => by simp only at e; omega) (.int .i64 H)).setCell (p := ⟨R, 2, none⟩) (fun e => by simp only at e; omega) (.slice a n c))
  clear hR P0 R0 K0
  go_wp2_with fail

  refine bodyPost_ret (results_cell_row rfl _ _ R 47 #[.int .i64 W, .int .i64 H, .slice a n c] (0, 0) _ rfl U.out Try.underlying47 rfl (by kernel_rfl)) rfl ?_
  exact ⟨rfl, KU.out⟩
theorem same_yes (a a' : Option Addr) (n c c' : Nat) (zs : List Int) (w : World) (hn : n ≤ 4611686018427387904) (h : Ints w a n zs) (h' : Ints w a' n zs) : Calls Try.prog 25 #[.slice a n c, .slice a' n c'] w fun e w' => e = .returned (.bool true) ∧ w' = w := by
  have H := Lib.hid h
  have H' := Lib.hid h'
  clear h h'
  go_enter Try.func25, Try.ntmps25
  go_wp2_with fail
  go_loopw [14] (fun cnt wr => ∃ k : Nat, k ≤ n ∧ cnt = .int .i64 k ∧ wr = w) (fun cnt _ => n - (intOf cnt).toNat)
  case atStart => exact ⟨0, by omega, rfl, rfl⟩
  case round =>
    obtain ⟨k, hk, rfl, rfl⟩ := hrel
    by_cases hlt : k < n
    · have hki : (k : Int) < n := by omega
      obtain ⟨b, off, z, rfl, e1, hz, hc⟩ := H.out.at hlt
      obtain ⟨b', off', z', rfl, e2, hz', hc'⟩ := H'.out.at hlt
      obtain rfl : z = z' := Option.some.inj (e1.symm.trans e2)
      clear e1 e2
      go_wp2_with fail
      go_roundw
      case rel => exact ⟨k + 1, by omega, by go_num, trivial⟩
      case measure => simp [intOf]; omega
    · obtain rfl : k = n := by omega
      go_wp2_with fail
      go_ret
      exact ⟨rfl, rfl⟩
end Go.Proofs.Ytfcndldobjpbnaa
