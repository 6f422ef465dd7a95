/- The contract of the journal's Append. -/
import Derived.Test.YthddjfaeacmlhaaDoorJO
namespace Go.Proofs.YthddjfaeacmlhaaDoor
open Go.RowKit Jr
set_option linter.unusedVariables false

set_option maxHeartbeats 1600000 in
theorem jappend_any (W : World) (B R J : Nat) (D : Option Nat) (m : Re.M) (sz : Nat) (h : Jn W B R J D m sz false) (hB : B ≤ W.heap.size) (a : Option Addr) (n c : Nat) (p : List Nat) (hp : Arg W a n c p) (hn : n ≤ 8388608) (hF : Fours W) (hsz : sz ≤ 16777216) :
    Calls Tryd.prog 18 #[.pointer (some ⟨J, 0, none⟩), .slice a n c] W
      (Did W B R J D (m.append (ints (recd p))).1 (m.append (ints (recd p))).2 (if (m.append (ints (recd p))).1 = 0 then sz + (n + 8) else sz) ((m.append (ints (recd p))).1 == 11)) := by
  obtain ⟨h0, h1, h2⟩ := jn_cells h.blk
  have C := Lib.hid (record_any W a n c p hp hn hF)
  have H := Lib.hid h
  have HB := Lib.hid hB
  have HP := Lib.hid (And.intro hp.len hp.byte)
  clear h0 h1 h hp hB
  obtain ⟨f, m', hap⟩ : ∃ f m', m.append (ints (recd p)) = (f, m') := ⟨_, _, rfl⟩
  rw [hap]
  simp only
  obtain ⟨sx, hsx⟩ : ∃ sx, sx = (if f = 0 then sz + (n + 8) else sz) := ⟨_, rfl⟩
  obtain ⟨cx, hcx⟩ : ∃ cx, cx = (f == 11) := ⟨_, rfl⟩
  rw [← hsx, ← hcx]
  have HSS := Lib.hid (show (f = 0 → sx = sz + (n + 8)) ∧ (¬ f = 0 → sx = sz) ∧ cx = (f == 11) from ⟨fun e => by rw [hsx, if_pos e], fun e => by rw [hsx, if_neg e], hcx⟩)
  have HAP := Lib.hid hap
  clear hsx hcx hap
  go_enter Tryd.func18, Tryd.ntmps18
  go_wp2_with fail
  refine C.out.mono ?_
  rintro e W1 ⟨a1, c1, rfl, ho1, hb1⟩
  rw [HP.out.1] at ho1 ⊢
  have hj1 := H.out.later hb1
  obtain ⟨g0, g1, g2⟩ := jn_cells hj1.blk
  have k1 := arg_of_own ho1 (recd_byte HP.out.2)
  have C1 := (rappend_all W1 B R D m hj1.reel (Nat.le_trans HB.out hb1.size) a1 (n + 8) c1 _ k1.src (by unfold maxLen; omega) (fun e => (k1.2.2 e).2))
  have HJ1 := Lib.hid hj1
  have HB1 := Lib.hid hb1
  clear ho1 hb1 hj1 k1 g1 g2 h2
  rw [HAP.out] at C1
  have C1 := Lib.hid C1
  go_wp2_with fail
  refine C1.out.mono ?_
  intro e W2 ha
  obtain ⟨rfl, D2, hj2, hk2, hd2⟩ := HJ1.out.after ha
  simp only at hj2
  have C2 := Lib.hid (heed_any W2 J R sz false f hj2.blk)
  have hj3 := hj2.close (f == 11)
  obtain ⟨q0, q1, q2⟩ := jn_cells hj3.blk
  have q1f := jn_free hj3.blk 1
  have hkk := keeps_fresh HB1.out (keeps_set hk2 2 (.bool (f == 11)))
  have hdd : D2 = D ∨ ∃ k, D2 = some k ∧ W.heap.size ≤ k := by
    rcases hd2 with e | ⟨k, e, hk⟩
    · exact Or.inl e
    · exact Or.inr ⟨k, e, Nat.le_trans HB1.out.size hk⟩
  have H3 := Lib.hid (And.intro hj3 (And.intro hkk hdd))
  clear ha hj2 hk2 hd2 hj3 q0 q2 hkk hdd g0
  go_wp2_with fail
  refine C2.out.mono ?_
  rintro e W3 ⟨rfl, rfl⟩
  generalize W2.setCell ⟨J, 2, none⟩ (.bool (f == 11)) = W4 at *
  by_cases hf : f = 0
  · subst hf
    obtain ⟨s2, hs2⟩ : ∃ s2, s2 = sz + (n + 8) := ⟨_, rfl⟩
    have hw : wrap64 ((sz : Int) + ((n : Int) + 8)) = (s2 : Int) := by rw [w64 _ (by omega) (by omega)]; omega
    have hw2 : (sz : Int) + ((n : Int) + 8) = (s2 : Int) := by omega
    have X := Lib.hid (show Did W B R J D 0 m' sx cx (.returned (.int .i64 0)) (W4.setCell ⟨J, 1, none⟩ (.int .i64 s2)) from by
      rw [HSS.out.1 rfl, HSS.out.2.2, ← hs2]
      exact ⟨rfl, D2, H3.out.1.grow s2, keeps_set H3.out.2.1 _ _, H3.out.2.2⟩)
    have HW2 := Lib.hid hw2
    clear hs2 hw hw2
    go_wp2_with fail
    go_ret
    have e : ((sz : Int) + (↑n + 8)) = (s2 : Int) := HW2.out
    first
      | exact X.out
      | (rw [e]; exact X.out)
  · have u0 : (f == 0) = false := by simpa using hf
    have u1 : decide (f = 0) = false := by simpa using hf
    have X := Lib.hid (show Did W B R J D f m' sx cx (.returned (.int .i64 f)) W4 from by
      rw [HSS.out.2.1 hf, HSS.out.2.2]
      exact ⟨rfl, D2, H3.out.1, H3.out.2.1, H3.out.2.2⟩)
    go_wp2_with fail
    go_ret
    exact X.out
end Go.Proofs.YthddjfaeacmlhaaDoor
