/- PackCuts' walk. -/
import Derived.Test.YtcdhpidglchinaaQ
import Derived.Test.YtcdhpidglchinaaS
import Derived.Test.YtcdhpidglchinaaT
import Derived.Test.YtcdhpidglchinaaLD
namespace Go.Proofs.Ytcdhpidglchinaa
open Go.RowKit Go.Lib Pk
set_option linter.unusedSimpArgs false
set_option linter.unusedVariables false

theorem xor_one (x : Int) (h : Fit x) : Fit (bits .xor .i64 x 1) ∧ bits .xor .i64 x 1 ≠ x := by
  have e : bits .xor .i64 x 1 = IntKind.i64.wrap ((BitVec.ofInt 64 x ^^^ BitVec.ofInt 64 1).toNat : Int) := rfl
  obtain ⟨a, ha⟩ : ∃ a, a = (BitVec.ofInt 64 x).toNat := ⟨_, rfl⟩
  have ha2 : a < 18446744073709551616 := by rw [ha]; exact (BitVec.ofInt 64 x).isLt
  have hx : (a : Int) = x % 18446744073709551616 := by
    rw [ha, BitVec.toNat_ofInt]
    simp
    omega
  have e1 : (BitVec.ofInt 64 1).toNat = 1 := by decide
  have e2 : (BitVec.ofInt 64 x ^^^ BitVec.ofInt 64 1).toNat = a ^^^ 1 := by rw [BitVec.toNat_xor, e1, ha]
  rw [e, e2]
  have h1 : a ^^^ 1 < 2 ^ 64 := Nat.xor_lt_two_pow ha2 (by decide)
  have h2 : a ^^^ 1 ≠ a := by
    intro hh
    have := congrArg (fun t => t ^^^ a) hh
    simp only [Nat.xor_self] at this
    rw [Nat.xor_comm a 1, Nat.xor_assoc, Nat.xor_self] at this
    simp at this
  generalize a ^^^ 1 = b at *
  unfold Fit at *
  simp [IntKind.wrap, IntKind.bits, IntKind.signed]
  omega
/- EARLY -/
attribute [local go_sem ↓] ldxE
attribute [local go_sem] ptrBlock_some
theorem keep3 {w w1 : World} {T : TypeId} {E : Nat} {e : PEd} {p s q : Hd} (h : Eb w T E e p s q) (k : Keeps none' w w1) : Eb w1 T E e p s q := h.keep k (fun x => x)
set_option maxRecDepth 100000 in
set_option maxHeartbeats 800000 in
theorem cuts_early0 (w : World) (e : PEd) (p s q : Hd) (at_ : Int) (h : Hd) (which : Int)  (hc : 300 < p.n) :
    Calls Try.prog 6 #[edV e p s q, .int .i64 at_, .slice h.a h.n h.c, .int .i64 which] w (Yes w) := by
  obtain ⟨EV, hEV⟩ : ∃ EV, EV = (edCells e p s q).toArray := ⟨_, rfl⟩
  obtain ⟨u, hu⟩ : ∃ u, u = w.alloc (.cells EV 27) := ⟨_, rfl⟩
  have K0 := Lib.hid (show Keeps none' w u by rw [hu]; exact (Keeps.refl none' w).alloc _)
  have E0 := Lib.hid (show Eb u 27 w.heap.size e p s q by rw [hu, hEV]; exact Eb.new w _ e p s q)
  have A := Lib.hid (anchor_any u)
  unfold edV
  rw [← hEV]
  clear hEV
  go_enter Try.func6, Try.ntmps6
  go_upto_region 1 with (fail)
  rw [← hu]
  clear hu
  go_wp2_with (go_at_call 7; ((with_reducible refine A.out.mono ?_); rintro en w1 ⟨rfl, k1⟩; have e1 := keep3 E0.out k1; have c10 := e1.c10; have c11 := e1.c11; have c18 := e1.c18; have K1 := Lib.hid k1; clear k1 e1))
  go_ret
  exact ⟨rfl, K0.out.next K1.out⟩
set_option maxRecDepth 100000 in
set_option maxHeartbeats 800000 in
theorem cuts_early1 (w : World) (e : PEd) (p s q : Hd) (at_ : Int) (h : Hd) (which : Int) (n0 : p.n ≤ 300) (hc : 300 < s.n) :
    Calls Try.prog 6 #[edV e p s q, .int .i64 at_, .slice h.a h.n h.c, .int .i64 which] w (Yes w) := by
  obtain ⟨EV, hEV⟩ : ∃ EV, EV = (edCells e p s q).toArray := ⟨_, rfl⟩
  obtain ⟨u, hu⟩ : ∃ u, u = w.alloc (.cells EV 27) := ⟨_, rfl⟩
  have K0 := Lib.hid (show Keeps none' w u by rw [hu]; exact (Keeps.refl none' w).alloc _)
  have E0 := Lib.hid (show Eb u 27 w.heap.size e p s q by rw [hu, hEV]; exact Eb.new w _ e p s q)
  have A := Lib.hid (anchor_any u)
  unfold edV
  rw [← hEV]
  clear hEV
  go_enter Try.func6, Try.ntmps6
  go_upto_region 1 with (fail)
  rw [← hu]
  clear hu
  go_wp2_with (go_at_call 7; ((with_reducible refine A.out.mono ?_); rintro en w1 ⟨rfl, k1⟩; have e1 := keep3 E0.out k1; have c10 := e1.c10; have c11 := e1.c11; have c18 := e1.c18; have K1 := Lib.hid k1; clear k1 e1))
  go_ret
  exact ⟨rfl, K0.out.next K1.out⟩
set_option maxRecDepth 100000 in
set_option maxHeartbeats 800000 in
theorem cuts_early2 (w : World) (e : PEd) (p s q : Hd) (at_ : Int) (h : Hd) (which : Int) (n0 : p.n ≤ 300) (n1 : s.n ≤ 300) (hc : 300 < q.n) :
    Calls Try.prog 6 #[edV e p s q, .int .i64 at_, .slice h.a h.n h.c, .int .i64 which] w (Yes w) := by
  obtain ⟨EV, hEV⟩ : ∃ EV, EV = (edCells e p s q).toArray := ⟨_, rfl⟩
  obtain ⟨u, hu⟩ : ∃ u, u = w.alloc (.cells EV 27) := ⟨_, rfl⟩
  have K0 := Lib.hid (show Keeps none' w u by rw [hu]; exact (Keeps.refl none' w).alloc _)
  have E0 := Lib.hid (show Eb u 27 w.heap.size e p s q by rw [hu, hEV]; exact Eb.new w _ e p s q)
  have A := Lib.hid (anchor_any u)
  unfold edV
  rw [← hEV]
  clear hEV
  go_enter Try.func6, Try.ntmps6
  go_upto_region 1 with (fail)
  rw [← hu]
  clear hu
  go_wp2_with (go_at_call 7; ((with_reducible refine A.out.mono ?_); rintro en w1 ⟨rfl, k1⟩; have e1 := keep3 E0.out k1; have c10 := e1.c10; have c11 := e1.c11; have c18 := e1.c18; have K1 := Lib.hid k1; clear k1 e1))
  go_ret
  exact ⟨rfl, K0.out.next K1.out⟩
set_option maxRecDepth 100000 in
set_option maxHeartbeats 800000 in
theorem cuts_early3 (w : World) (e : PEd) (p s q : Hd) (at_ : Int) (h : Hd) (which : Int) (n0 : p.n ≤ 300) (n1 : s.n ≤ 300) (n2 : q.n ≤ 300) (hc : at_ < 0) :
    Calls Try.prog 6 #[edV e p s q, .int .i64 at_, .slice h.a h.n h.c, .int .i64 which] w (Yes w) := by
  obtain ⟨EV, hEV⟩ : ∃ EV, EV = (edCells e p s q).toArray := ⟨_, rfl⟩
  obtain ⟨u, hu⟩ : ∃ u, u = w.alloc (.cells EV 27) := ⟨_, rfl⟩
  have K0 := Lib.hid (show Keeps none' w u by rw [hu]; exact (Keeps.refl none' w).alloc _)
  have E0 := Lib.hid (show Eb u 27 w.heap.size e p s q by rw [hu, hEV]; exact Eb.new w _ e p s q)
  have A := Lib.hid (anchor_any u)
  unfold edV
  rw [← hEV]
  clear hEV
  go_enter Try.func6, Try.ntmps6
  go_upto_region 1 with (fail)
  rw [← hu]
  clear hu
  go_wp2_with (go_at_call 7; ((with_reducible refine A.out.mono ?_); rintro en w1 ⟨rfl, k1⟩; have e1 := keep3 E0.out k1; have c10 := e1.c10; have c11 := e1.c11; have c18 := e1.c18; have K1 := Lib.hid k1; clear k1 e1))
  go_ret
  exact ⟨rfl, K0.out.next K1.out⟩
set_option maxRecDepth 100000 in
set_option maxHeartbeats 800000 in
theorem cuts_early4 (w : World) (e : PEd) (p s q : Hd) (at_ : Int) (h : Hd) (which : Int) (n0 : p.n ≤ 300) (n1 : s.n ≤ 300) (n2 : q.n ≤ 300) (n3 : 0 ≤ at_) (hc : h.n < 1) :
    Calls Try.prog 6 #[edV e p s q, .int .i64 at_, .slice h.a h.n h.c, .int .i64 which] w (Yes w) := by
  obtain ⟨EV, hEV⟩ : ∃ EV, EV = (edCells e p s q).toArray := ⟨_, rfl⟩
  obtain ⟨u, hu⟩ : ∃ u, u = w.alloc (.cells EV 27) := ⟨_, rfl⟩
  have K0 := Lib.hid (show Keeps none' w u by rw [hu]; exact (Keeps.refl none' w).alloc _)
  have E0 := Lib.hid (show Eb u 27 w.heap.size e p s q by rw [hu, hEV]; exact Eb.new w _ e p s q)
  have A := Lib.hid (anchor_any u)
  unfold edV
  rw [← hEV]
  clear hEV
  go_enter Try.func6, Try.ntmps6
  go_upto_region 1 with (fail)
  rw [← hu]
  clear hu
  go_wp2_with (go_at_call 7; ((with_reducible refine A.out.mono ?_); rintro en w1 ⟨rfl, k1⟩; have e1 := keep3 E0.out k1; have c10 := e1.c10; have c11 := e1.c11; have c18 := e1.c18; have K1 := Lib.hid k1; clear k1 e1))
  go_ret
  exact ⟨rfl, K0.out.next K1.out⟩
set_option maxRecDepth 100000 in
set_option maxHeartbeats 800000 in
theorem cuts_early5 (w : World) (e : PEd) (p s q : Hd) (at_ : Int) (h : Hd) (which : Int) (n0 : p.n ≤ 300) (n1 : s.n ≤ 300) (n2 : q.n ≤ 300) (n3 : 0 ≤ at_) (n4 : 1 ≤ h.n) (hc : 50 < h.n) :
    Calls Try.prog 6 #[edV e p s q, .int .i64 at_, .slice h.a h.n h.c, .int .i64 which] w (Yes w) := by
  obtain ⟨EV, hEV⟩ : ∃ EV, EV = (edCells e p s q).toArray := ⟨_, rfl⟩
  obtain ⟨u, hu⟩ : ∃ u, u = w.alloc (.cells EV 27) := ⟨_, rfl⟩
  have K0 := Lib.hid (show Keeps none' w u by rw [hu]; exact (Keeps.refl none' w).alloc _)
  have E0 := Lib.hid (show Eb u 27 w.heap.size e p s q by rw [hu, hEV]; exact Eb.new w _ e p s q)
  have A := Lib.hid (anchor_any u)
  unfold edV
  rw [← hEV]
  clear hEV
  go_enter Try.func6, Try.ntmps6
  go_upto_region 1 with (fail)
  rw [← hu]
  clear hu
  go_wp2_with (go_at_call 7; ((with_reducible refine A.out.mono ?_); rintro en w1 ⟨rfl, k1⟩; have e1 := keep3 E0.out k1; have c10 := e1.c10; have c11 := e1.c11; have c18 := e1.c18; have K1 := Lib.hid k1; clear k1 e1))
  go_ret
  exact ⟨rfl, K0.out.next K1.out⟩
theorem cuts_short {e : PEd} (ok : EdOk e.ed) {p s q : Hd} {w : World} (hi : EdIn w e p s q) (n0 : p.n ≤ 301) (n1 : s.n ≤ 301) (n2 : q.n ≤ 301) : (putE e.ed).length ≤ 20000 ∧ 0 < (putE e.ed).length ∧ e.p.length + e.s.length + e.q.length ≤ 10000 := by
  have h1 := hi.p.len
  have h2 := hi.s.len
  have h3 := hi.q.len
  rw [ints_length] at h1 h3
  rw [pts_length] at h2
  obtain ⟨ok10, okp, oks, ok6, okq⟩ := ok
  simp only [PEd.ed] at ok10 okp oks ok6 okq
  have l1 := flat_short ok10.1
  have l2 := putL_short okp.1 (by omega)
  have l3 := putLP_short oks.1 (by omega)
  have l4 := flat_short ok6.1
  have l5 := putL_short okq.1 (by omega)
  have l6 := put_pos (e.p.length : Int)
  rw [ok10.2] at l1
  rw [ok6.2] at l4
  have e1 : (putE e.ed).length = (e.ten.flatMap put).length + ((putL put e.p).length + ((putL putPt e.s).length + ((e.six.flatMap put).length + (putL put e.q).length))) := by
    show (e.ten.flatMap put ++ (putL put e.p ++ (putL putPt e.s ++ (e.six.flatMap put ++ putL put e.q)))).length = _
    simp only [List.length_append]
  have l7 : 0 < (putL put e.p).length := by unfold putL; rw [List.length_append]; omega
  refine ⟨by omega, by omega, by omega⟩
end Go.Proofs.Ytcdhpidglchinaa
