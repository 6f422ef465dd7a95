/- Join: one row of bytes behind the other. -/
import Derived.Test.YtcdhpidglchinaaO
namespace Go.Proofs.Ytcdhpidglchinaa
open Go.RowKit Go.Lib Pk
set_option linter.unusedSimpArgs false
set_option linter.unusedVariables false

set_option maxHeartbeats 800000 in
theorem Join_any (w : World) (g h : Hd) (xs ys : List Nat) (hx : Cells 1 w g (bys xs)) (hy : Cells 1 w h (bys ys)) (hl : xs.length ≤ 1000000) (hl2 : ys.length ≤ 1000000) :
    Calls Try.prog 16 #[.slice g.a g.n g.c, .slice h.a h.n h.c] w (ToldB w (xs ++ ys)) := by
  obtain ⟨i0, hi, hz0, hz1, hz2⟩ := info_parts info5
  have hn : xs.length = g.n := by have := hx.len; rw [bys_length] at this; omega
  have hm : ys.length = h.n := by have := hy.len; rw [bys_length] at this; omega
  have hn2 : g.n ≤ 1000000 := by omega
  have hm2 : h.n ≤ 1000000 := by omega
  have K0 := (Keeps.refl none' w).alloc (.cells #[] 5)
  have X0 := Lib.hid (hx.later K0)
  have O0 := Lib.hid (World.ownsRow_made (e := 5) (size := 1) w #[] 0 (Nat.le_refl _) (Nat.zero_le _) (by simp))
  have HY := Lib.hid hy
  have HK := Lib.hid K0
  have HN := Lib.hid (And.intro hn hm)
  clear hx hy hn hm hl hl2 K0
  go_enter Try.func16, Try.ntmps16
  go_wp2_with (first
    | (at_builtin; go_loud (refine wpList_append_row rfl 29 5 _ _ rfl i0 _ 1 1 Try.underlying29 hi hz0 hz1 hz2 rfl (by decide) (by decide) w.heap.size 0 (.slice (some ⟨w.heap.size, 0, none⟩) 0 0) _ rfl O0.out g _ rfl X0.out (by omega) (by omega) (by simp) ?_; intro a1 c1 w1 ho hg hat; simp only [Nat.zero_add, List.nil_append] at ho; have K1 := Lib.hid (HK.out.grown hg (fun q hq e => by simp [Value.ownBlock] at e; omega)); have O1 := Lib.hid ho; clear ho hg hat))
    | (at_builtin; go_loud (refine wpList_append_row rfl 29 5 _ _ rfl i0 _ 1 1 Try.underlying29 hi hz0 hz1 hz2 rfl (by decide) (by decide) w.heap.size g.n (.slice a1 g.n c1) _ rfl O1.out h _ rfl (HY.out.later K1.out) (by omega) (by omega) K1.out.size ?_; intro a2 c2 w2 ho hg hat; have K2 := Lib.hid (K1.out.grown hg (fun q hq e => by have := (own_lt O1.out q e).1; omega)); have O2 := Lib.hid ho; clear ho hg hat)))
  go_ret
  refine ⟨⟨a2, g.n + h.n, c2⟩, rfl, by rw [List.length_append, HN.out.1, HN.out.2], ?_, K2.out⟩
  rw [bys_append]
  exact O2.out
end Go.Proofs.Ytcdhpidglchinaa
