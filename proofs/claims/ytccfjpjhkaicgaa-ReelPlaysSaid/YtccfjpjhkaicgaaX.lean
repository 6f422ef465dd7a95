/- The play. -/
import Derived.Test.YtccfjpjhkaicgaaW
import Derived.Deep.RegionWith
namespace Go.Proofs.Ytccfjpjhkaicgaa
open Go.RowKit

section
variable {P : Program} {Q : Exit → Act → World → Prop} {o0 o1 o2 o3 o4 o5 : Oper} {r : List Oper} {fuel : Nat} {listed : Array Bool} {a : Act} {w : World}
/-- A region whose fourth operation, a call, waits for three and is waited for by all the rest: that call. -/
theorem any_three (hr : Region.ready .any (o0 :: o1 :: o2 :: o3 :: r).toArray listed = [3]) (hw : Region.wanted o3 (yielded (o0 :: o1 :: o2 :: o3 :: r).toArray a.tmps) = true)
    (h : ∀ K : Act → World → Prop, (∀ a w, wpAny P .any (o0 :: o1 :: o2 :: o3 :: r).toArray Q fuel (listed.setIfInBounds 3 true) a w → K a w) → Oper.wp P o3 a w K Q) : wpAny P .any (o0 :: o1 :: o2 :: o3 :: r).toArray Q (fuel + 1) listed a w :=
  wpAny_ready hr (by simp) (BigFrame.allReady_want rfl hw h AllReady.nil)
/-- The one behind it. -/
theorem any_four (hr : Region.ready .any (o0 :: o1 :: o2 :: o3 :: o4 :: r).toArray listed = [4]) (hw : Region.wanted o4 (yielded (o0 :: o1 :: o2 :: o3 :: o4 :: r).toArray a.tmps) = true)
    (h : ∀ K : Act → World → Prop, (∀ a w, wpAny P .any (o0 :: o1 :: o2 :: o3 :: o4 :: r).toArray Q fuel (listed.setIfInBounds 4 true) a w → K a w) → Oper.wp P o4 a w K Q) : wpAny P .any (o0 :: o1 :: o2 :: o3 :: o4 :: r).toArray Q (fuel + 1) listed a w :=
  wpAny_ready hr (by simp) (BigFrame.allReady_want rfl hw h AllReady.nil)
/-- And the next. -/
theorem any_five (hr : Region.ready .any (o0 :: o1 :: o2 :: o3 :: o4 :: o5 :: r).toArray listed = [5]) (hw : Region.wanted o5 (yielded (o0 :: o1 :: o2 :: o3 :: o4 :: o5 :: r).toArray a.tmps) = true)
    (h : ∀ K : Act → World → Prop, (∀ a w, wpAny P .any (o0 :: o1 :: o2 :: o3 :: o4 :: o5 :: r).toArray Q fuel (listed.setIfInBounds 5 true) a w → K a w) → Oper.wp P o5 a w K Q) : wpAny P .any (o0 :: o1 :: o2 :: o3 :: o4 :: o5 :: r).toArray Q (fuel + 1) listed a w :=
  wpAny_ready hr (by simp) (BigFrame.allReady_want rfl hw h AllReady.nil)
/-- From the seventh on they only read. -/
theorem any_rest (hf : fuel = r.length) (hs : Region.noSelect (o0 :: o1 :: o2 :: o3 :: o4 :: o5 :: r).toArray = true) (hB : Region.lexFrom .any (o0 :: o1 :: o2 :: o3 :: o4 :: o5 :: r).toArray r.length 6 listed = true)
    (h : wpQuiet P (o0 :: o1 :: o2 :: o3 :: o4 :: o5 :: r).toArray (fun w' => ∃ n, w' = w.drewN n) (fun a' => ∀ w', (∃ n, w' = w.drewN n) → Q .normal a' w') r a) : wpAny P .any (o0 :: o1 :: o2 :: o3 :: o4 :: o5 :: r).toArray Q fuel listed a w := by
  subst hf
  refine wpAny_of_quiet (C := fun w' => ∃ n, w' = w.drewN n) (Q := fun a' => ∀ w', (∃ n, w' = w.drewN n) → Q .normal a' w') (fun _ w' hw' h => h w' hw') _ _ _ _ ⟨0, rfl⟩ ?_
  exact wpAnyQ_lex (C := fun w' => ∃ n, w' = w.drewN n) hs r 6 listed a (fun j => by simp [Nat.add_comm 6 j]) hB h
end

/-- A play's one operation in memory. -/
def OneOp (w : World) (b o : Nat) : Prop := ∃ kind N L da dn dc ys, w.cell? ⟨b, o, none⟩ = some (.int .i64 kind) ∧ w.cell? ⟨b, o + 1, none⟩ = some (.int .i64 N) ∧ w.cell? ⟨b, o + 2, none⟩ = some (.int .i64 L) ∧ w.cell? ⟨b, o + 3, none⟩ = some (.slice da dn dc) ∧
  (-9223372036854775808 ≤ N ∧ N ≤ 9223372036854775807) ∧ Src w da dn ys ∧ Fits da dn dc

/-- A play in memory. -/
def Play (w : World) (a : Option Addr) (len cp : Nat) : Prop := len ≤ cp ∧ cp ≤ maxLen ∧ ∀ i, i < len → ∃ b off, a = some ⟨b, off, none⟩ ∧ OneOp w b (off + i * 4)

set_option maxRecDepth 100000 in
set_option maxHeartbeats 1600000 in
theorem play_bad (cap : Int) (a : Option Addr) (len cp : Nat) (w : World) (hc : cap < 0 ∨ 16777216 < cap) :
    Calls Try.prog 3 #[.int .i64 cap, .slice a len cp] w (Yes w) := by
  have A := Lib.hid (anchor_any w)
  by_cases c0 : cap < 0
  · have t0 : decide (cap < 0) = true := by simpa using c0
    go_enter Try.func3, Try.ntmps3
    go_wp2_with fail
    refine A.out.mono ?_
    rintro e w1 ⟨rfl, hk⟩
    have K := Lib.hid hk
    clear hk
    have C := Lib.hid (new_no cap w1 hc)
    go_wp2_with fail
    refine C.out.mono ?_
    rintro e w2 ⟨rfl, rfl⟩
    go_wp2_with fail
    go_ret
    exact ⟨rfl, K.out⟩
  · have t0 : decide (cap < 0) = false := by simpa using c0
    have t1 : decide ((16777216 : Int) < cap) = true := by simp; omega
    go_enter Try.func3, Try.ntmps3
    go_wp2_with fail
    refine A.out.mono ?_
    rintro e w1 ⟨rfl, hk⟩
    have K := Lib.hid hk
    clear hk
    have C := Lib.hid (new_no cap w1 hc)
    go_wp2_with fail
    refine C.out.mono ?_
    rintro e w2 ⟨rfl, rfl⟩
    go_wp2_with fail
    go_ret
    exact ⟨rfl, K.out⟩

set_option maxRecDepth 100000 in
set_option maxHeartbeats 1600000 in
theorem play_long (cap : Int) (a : Option Addr) (len cp : Nat) (w : World) (h0 : 0 ≤ cap) (h1 : cap ≤ 16777216) (hl : 200 < len) :
    Calls Try.prog 3 #[.int .i64 cap, .slice a len cp] w (Yes w) := by
  have A := Lib.hid (anchor_any w)
  have t0 : decide (cap < 0) = false := by simp; omega
  have t1 : decide ((16777216 : Int) < cap) = false := by simp; omega
  have t2 : decide ((200 : Int) < len) = true := by simp; omega
  go_enter Try.func3, Try.ntmps3
  go_wp2_with fail
  refine A.out.mono ?_
  rintro e w1 ⟨rfl, hk⟩
  have N := Lib.hid (new_st hk cap h0 h1)
  clear hk
  go_wp2_with fail
  refine N.out.mono ?_
  rintro e w2 ⟨rfl, h2⟩
  have H2 := Lib.hid h2.keeps
  clear h2
  go_wp2_with fail
  go_ret
  exact ⟨rfl, H2.out⟩

set_option maxRecDepth 100000 in
set_option maxHeartbeats 4000000 in
theorem play_good (cap : Int) (a : Option Addr) (len cp : Nat) (w : World) (h0 : 0 ≤ cap) (h1 : cap ≤ 16777216) (hl : len ≤ 200) (hp : Play w a len cp) :
    Calls Try.prog 3 #[.int .i64 cap, .slice a len cp] w (Yes w) := by
  have A := Lib.hid (anchor_any w)
  have P := Lib.hid hp
  have t0 : decide (cap < 0) = false := by simp; omega
  have t1 : decide ((16777216 : Int) < cap) = false := by simp; omega
  have t2 : decide ((200 : Int) < len) = false := by simp; omega
  clear hp
  go_enter Try.func3, Try.ntmps3
  go_wp2_with fail
  refine A.out.mono ?_
  rintro e w1 ⟨rfl, hk⟩
  have N := Lib.hid (new_st hk cap h0 h1)
  clear hk
  go_wp2_with fail
  refine N.out.mono ?_
  rintro e w2 ⟨rfl, h2⟩
  have H := Lib.hid (Both.new h2)
  clear h2
  go_wp2_with fail
  go_loopw [39] (fun cnt wr => ∃ i : Nat, i ≤ len ∧ cnt = .int .i64 i ∧ ∃ m, Both w w1.heap.size m w2.heap.size m wr) (fun cnt _ => len - (intOf cnt).toNat)
  case atStart => exact ⟨0, Nat.zero_le _, rfl, _, H.out⟩
  case round =>
    obtain ⟨i, hi, rfl, m, h⟩ := hrel
    by_cases hlt : i < len
    · obtain ⟨b, off, rfl, kind, N, L, da, dn, dc, ys, c0, c1, c2, c3, hN, hs, hf⟩ := P.out.2.2 i hlt
      have up : ∀ o v, w.cell? ⟨b, o, none⟩ = some v → wr.cell? ⟨b, o, none⟩ = some v := by
        intro o v hv
        rw [← hv]
        exact World.cell?_of_block (w := w) (h.keeps.block _ (World.block_lt_of_cell? w _ hv) (fun h => h))
      replace c0 := up _ _ c0
      replace c1 := up _ _ c1
      replace c2 := up _ _ c2
      replace c3 := up _ _ c3
      clear up
      have HH := Lib.hid h
      have HS := Lib.hid hs
      have HF := Lib.hid hf
      clear h hs hf
      by_cases hd : 1000 < dn
      · have t3 : decide ((1000 : Int) < dn) = true := by simp; omega
        have X := Lib.hid (fun c => (HH.out.alloc c 31).both.keeps)
        go_wp2_with fail
        go_ret
        exact ⟨rfl, X.out _⟩
      · have t3 : decide ((1000 : Int) < dn) = false := by simp; omega
        have C := Lib.hid (fun (W' : World) (h : Both w w1.heap.size m w2.heap.size m W') => step_any w W' w1.heap.size w2.heap.size m h kind N L hN da dn dc ys ⟨HS.out, HF.out, by omega⟩)
        go_wp2_with fail
        refine wp_region_any (by kernel_rfl) ?_
        change wpAny _ _ _ _ _ _ _ (World.drew _)
        refine wpAny_take (i := 0) rfl (by kernel_rfl) (by kernel_rfl) (by kernel_rfl) (fun _ _ _ h => h) (Or.inl ⟨rfl, fun w => BigFrame.run_move _ rfl w⟩) ?_
        refine wpAny_take (i := 1) rfl (by kernel_rfl) (by kernel_rfl) (by kernel_rfl) (fun _ _ _ h => h) (Or.inl ⟨rfl, fun w => BigFrame.run_move _ rfl w⟩) ?_
        refine wpAny_ready (rs := [2]) (by kernel_rfl) (by simp) (AllReady.cons rfl (fun K hK => ?_) AllReady.nil)
        go_simp
        refine hK _ _ ?_
        clear hK K
        refine any_three (by kernel_rfl) (by kernel_rfl) (fun K hK => ?_)
        go_big_op
        refine (C.out _ (HH.out.alloc _ _).drew.both).mono ?_
        rintro e W1 ⟨rfl, m1, h1⟩
        obtain ⟨E, ct, l, hb, hT, hR, hl, hxs, hfx⟩ := h1.cells
        obtain ⟨g0, g1, g2, g3, g4, g5⟩ := twin_cells hb
        have S11 := Lib.hid (fun q : Nat => (size_st (h1.drewN q).st).mono (fun e w' h => (⟨h.1, h.2.symm⟩ : e = .returned (.int .i64 m1.xs.length) ∧ w' = W1.drewN q)))
        have S12 := Lib.hid (fun q : Nat => (safe_st (h1.drewN q).st).mono (fun e w' h => (⟨h.1, h.2.symm⟩ : e = .returned (.int .i64 m1.safe) ∧ w' = W1.drewN q)))
        have S13 := Lib.hid (fun q : Nat => (down_st (h1.drewN q).st).mono (fun e w' h => (⟨h.1, h.2.symm⟩ : e = .returned (.bool m1.down) ∧ w' = W1.drewN q)))
        have H1 := Lib.hid h1
        clear h1 hb hl hxs hfx g1 g3 g4 c0 c1 c2 c3
        refine hK _ _ ?_
        clear hK K
        refine any_four (by kernel_rfl) (by kernel_rfl) (fun K hK => ?_)
        go_big_op
        refine hK _ _ ?_
        clear hK K
        refine any_five (by kernel_rfl) (by kernel_rfl) (fun K hK => ?_)
        go_big_move
        refine hK _ _ ?_
        clear hK K
        refine any_rest (by kernel_rfl) (by kernel_rfl) (by kernel_rfl) ?_
        repeat (go_big_quiet_step (first
          | (go_at_call 11; exact Calls.quiet_of_same (S11.out _))
          | (go_at_call 12; exact Calls.quiet_of_same (S12.out _))
          | (go_at_call 13; exact Calls.quiet_of_same (S13.out _))))
        refine wpQuiet_nil ?_
        intro _ hw'
        obtain ⟨nq, rfl⟩ := hw'
        have X := Lib.hid (H1.out.drewN nq)
        clear H1
        go_wp2_with fail
        go_roundw
        case rel => exact ⟨i + 1, by omega, by go_num, _, X.out⟩
        case measure => simp [intOf]; omega
    · obtain ⟨s, hs⟩ := Int.eq_ofNat_of_zero_le h.ok.safe0
      have hsl : s ≤ m.xs.length := by have := h.ok.safe1; omega
      have OK := Lib.hid h.ok
      have C1 := Lib.hid (clone_tri h)
      clear h
      go_wp2_with fail
      refine C1.out.mono ?_
      rintro e w3 ⟨rfl, h3⟩
      have C2 := crash_tri h3 0
      rw [crash_zero OK.out, hs, Int.toNat_natCast] at C2
      have C2 := Lib.hid C2
      clear h3
      go_wp2_with fail
      refine C2.out.mono ?_
      rintro e w4 ⟨rfl, h4⟩
      have C3 := crash_tri h4.swap 1073741824
      rw [crash_all OK.out] at C3
      have C3 := Lib.hid C3
      clear h4
      go_wp2_with fail
      refine C3.out.mono ?_
      rintro e w5 ⟨rfl, h5⟩
      have e1 : (loose m.cap (m.xs.take s) (s : Int)).xs.length = s := by simp [loose]; omega
      have e2 : (loose m.cap m.xs (m.xs.length : Int)).xs.length = m.xs.length := rfl
      have C4 := size_st h5.swap.st
      rw [e1] at C4
      have C4 := Lib.hid C4
      have C5 := Lib.hid (read_bl h5.swap.st rfl 0 s (by rw [e1]; omega))
      have H5 := Lib.hid h5
      clear h5
      go_wp2_with fail
      refine C4.out.mono ?_
      rintro e w5' ⟨rfl, rfl⟩
      go_wp2_with fail
      refine C5.out.mono ?_
      rintro e w6 ⟨rfl, hb6, hs6⟩
      have h6 := H5.out.below hb6
      have C6 := size_st h6.st
      rw [e2] at C6
      have C6 := Lib.hid C6
      have C7 := Lib.hid (read_bl h6.st rfl 0 m.xs.length (by rw [e2]; omega))
      have H6 := Lib.hid h6
      have HS6 := Lib.hid hs6
      clear h6 hb6 hs6
      go_wp2_with fail
      refine C6.out.mono ?_
      rintro e w6' ⟨rfl, rfl⟩
      go_wp2_with fail
      refine C7.out.mono ?_
      rintro e w7 ⟨rfl, hb7, hs7⟩
      have h7 := H6.out.below hb7
      have K7 := Lib.hid h7.st.keeps
      obtain ⟨E, ct, l, hb, hT, hR, hl, hxs, hfx⟩ := h7.both.cells
      obtain ⟨g0, g1, g2, g3, g4, g5⟩ := twin_cells hb
      rw [hs] at g2
      have SA : Src w7 (some ⟨w5.heap.size, 0, none⟩) s (m.xs.take s) := by
        have h := HS6.out.later (fun k hk => hb7.block k hk)
        rw [List.drop_zero, List.take_of_length_le (Nat.le_of_eq e1)] at h
        exact h
      have SB : Src w7 (some ⟨w6.heap.size, 0, none⟩) m.xs.length m.xs := by
        have h := hs7
        rw [List.drop_zero, List.take_of_length_le (Nat.le_of_eq e2)] at h
        exact h
      have FX := Lib.hid hfx
      have SX := Lib.hid hxs
      have HA := Lib.hid SA
      have HB := Lib.hid SB
      clear SA SB h7 hb7 hs7 hb hl hxs hfx g1 g3 g4 g5
      cases E with
      | none =>
        have hz : m.xs.length = 0 := by have := FX.out.1; have := FX.out.2.2 rfl; omega
        obtain rfl : s = 0 := by omega
        obtain rfl : ct = 0 := FX.out.2.2 rfl
        simp only [headOf, Option.map_none] at g0
        rw [hz] at g0
        have CB := Lib.hid (fun (q c : Nat) => show Calls Try.prog 17 #[.slice (some ⟨w6.heap.size, 0, none⟩) m.xs.length c, .slice none 0 0] (w7.drewN q) (fun e w' => e = .returned (.bool true) ∧ w' = w7.drewN q) by
          rw [hz]
          exact same_any _ (src_zero _ _) (src_zero _ _) rfl _ _)
        clear hz
        go_wp2_with fail
        go_quiet (first
          | (go_at_call_of 17 (w6.heap.size); exact Calls.quiet_of_same (CB.out _ _))
          | (go_at_call 17; exact Calls.quiet_of_same (same_any _ (src_zero _ _) (src_zero _ _) rfl _ _)))
        go_wp2_with fail
        go_ret
        exact ⟨rfl, K7.out.drewN _⟩
      | some g =>
        simp only [headOf, Option.map_some] at g0
        have hct : m.xs.length ≤ ct := FX.out.1
        have hct' : s ≤ ct := by omega
        have CB := Lib.hid (fun (q c d : Nat) => show Calls Try.prog 17 #[.slice (some ⟨w6.heap.size, 0, none⟩) m.xs.length c, .slice (some ⟨g, 0, none⟩) m.xs.length d] (w7.drewN q) (fun e w' => e = .returned (.bool true) ∧ w' = w7.drewN q) from
          same_any _ (HB.out.later (w' := w7.drewN q) (fun _ _ => rfl)) (SX.out.later (w' := w7.drewN q) (fun _ _ => rfl)) rfl c d)
        have CA := Lib.hid (fun (q c d : Nat) => show Calls Try.prog 17 #[.slice (some ⟨w5.heap.size, 0, none⟩) s c, .slice (some ⟨g, 0, none⟩) s d] (w7.drewN q) (fun e w' => e = .returned (.bool true) ∧ w' = w7.drewN q) from
          same_any _ (HA.out.later (w' := w7.drewN q) (fun _ _ => rfl)) (src_take (SX.out.later (w' := w7.drewN q) (fun _ _ => rfl)) hsl) rfl c d)
        go_wp2_with fail
        go_quiet (first
          | (go_at_call_of 17 (w5.heap.size); exact Calls.quiet_of_same (CA.out _ _ _))
          | (go_at_call_of 17 (w6.heap.size); exact Calls.quiet_of_same (CB.out _ _ _)))
        go_wp2_with fail
        go_ret
        exact ⟨rfl, K7.out.drewN _⟩
end Go.Proofs.Ytccfjpjhkaicgaa
