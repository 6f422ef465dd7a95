/- The document's size and nums. -/
import Derived.Test.YtcdhpidglchinaaRB
import Derived.Test.YtcdhpidglchinaaI
namespace Go.Proofs.Ytcdhpidglchinaa
open Go.RowKit Go.Lib Pk
set_option linter.unusedSimpArgs false
set_option linter.unusedVariables false

theorem num_fault {s : St} (h : s.Ok) (hf : (num s).2.f ≠ 0) : (num s).1 = 0 ∧ (num s).2.ys = [] := by
  refine ⟨?_, codec_num.still s h hf⟩
  unfold num at hf ⊢
  cases hd : dec 0 s.ys with
  | error e => rfl
  | ok p =>
    rw [hd] at hf
    have := h hf
    rw [this] at hd
    simp [dec] at hd
theorem count_fault {s : St} (h : s.Ok) (hf : (num s).2.f ≠ 0) : count s = (0, (num s).2) := by
  obtain ⟨h1, h2⟩ := num_fault h hf
  unfold count
  rw [h1, h2]
  simp
theorem count_zero {s : St} (h : s.Ok) (hf : (count s).2.f ≠ 0) : (count s).1 = 0 := by
  by_cases h1 : (num s).2.f ≠ 0
  · rw [count_fault h h1]
  · unfold count at hf ⊢
    split
    · rfl
    · rename_i h2
      rw [if_neg h2] at hf
      split
      · rfl
      · rename_i h3
        rw [if_neg h3] at hf
        exact absurd hf h1
theorem Rf.ok {w : World} {Q P : Nat} {zs : List Nat} {s : St} (h : Rf w Q P zs s) : s.Ok := by obtain ⟨_, _, h⟩ := h; exact h.ok
theorem rf_fail {w w1 : World} {Q P : Nat} {zs : List Nat} {s : St} {g : Hd} {t e : Nat} (H : RfP w Q P zs s g t) (hf : s.f = 0) (he : e ≠ 0)
    (hb : w1.heap[P]? = some (.cells #[.slice g.a g.n g.c, .int .i64 (t : Int), .int .i64 (e : Int)] 64 (0, 0))) (hk : Keeps (fun q => q = P) w w1) : RfNext w Q P zs (s.fail e) w1 := by
  have ef : (s.fail e).f = e := by unfold St.fail; simp [hf]
  exact rf_set (t' := t) H _ hk (by rw [ef]; exact hb) H.at_ (s.fail_ok e) (fun x => absurd x (by rw [ef]; exact he))
set_option maxRecDepth 100000 in
set_option maxHeartbeats 1600000 in
theorem Rsize_any (w : World) (Q P : Nat) (zs : List Nat) (s : St) (h : Rf w Q P zs s) (hl : zs.length ≤ 1000000) : Calls Try.prog 25 #[.pointer (some ⟨P, 0, none⟩)] w fun en w' => en = .returned (.int .i64 (count s).1) ∧ RfNext w Q P zs (count s).2 w' := by
  have C1 := Lib.hid (Rnum_any w Q P zs s h hl)
  have hcf := Lib.hid (fun hf => count_fault h.ok hf)
  obtain ⟨v, hv⟩ : ∃ v, v = (num s).1 := ⟨_, rfl⟩
  obtain ⟨s1, hs⟩ : ∃ s1, s1 = (num s).2 := ⟨_, rfl⟩
  rw [← hv, ← hs] at C1
  rw [← hs] at hcf
  have ec : count s = if v < 0 then (0, s1.fail 25) else if (s1.ys.length : Int) < v then (0, s1.fail 20) else (v.toNat, s1) := by rw [hv, hs]; rfl
  have HE := Lib.hid ec
  have HL := Lib.hid hl
  have AA := Lib.hid (fun (w1 : World) (t1 : RfNext w Q P zs s1 w1) => show ∃ g t, RfP w1 Q P zs s1 g t ∧ zs.length = g.n from by
    obtain ⟨⟨g, t, hr⟩, _⟩ := t1
    have := hr.cells.len
    rw [bys_length] at this
    exact ⟨g, t, hr, by omega⟩)
  clear hv hs ec h hl
  go_enter Try.func25, Try.ntmps25
  go_upto_region 2 with (go_at_call 23; ((with_reducible refine C1.out.mono ?_); rintro en w1 ⟨rfl, t1⟩; have T1 := Lib.hid t1; obtain ⟨⟨a, n, c⟩, t, hr, hn⟩ := AA.out _ t1; have HR := Lib.hid hr; have HN := Lib.hid hn; clear t1 hr hn))
  have HN : Hid (zs.length = n) := HN
  have hb := HR.out.block
  have c0 : w1.cell? ⟨P, 0, none⟩ = some (.slice a n c) := cell_at (i := 0) hb rfl
  have c1 : w1.cell? ⟨P, 1, none⟩ = some (.int .i64 (t : Int)) := cell_at (i := 1) hb rfl
  have c2 : w1.cell? ⟨P, 2, none⟩ = some (.int .i64 (s1.f : Int)) := cell_at (i := 2) hb rfl
  have htn : t ≤ n := by rw [← HN.out]; exact HR.out.at_
  have hn2 : n ≤ 1000000 := by rw [← HN.out]; exact HL.out
  by_cases hf : s1.f = 0
  · have b1 : ((s1.f : Int) == 0) = true := by rw [hf]; rfl
    have b2 : ((s1.f : Int) != 0) = false := by rw [hf]; rfl
    have hy : s1.ys.length = n - t := by rw [HR.out.here hf, List.length_drop, HN.out]
    have B0 := Lib.hid (show w1.heap[P]? = some (.cells #[.slice a n c, .int .i64 (t : Int), .int .i64 0] 64 (0, 0)) by rw [hb, hf]; rfl)
    rw [hf] at c2
    have HF := Lib.hid hf
    have HY := Lib.hid hy
    clear hb hf hy
    by_cases hneg : v < 0
    · have F := Lib.hid (show Calls Try.prog 26 #[.pointer (some ⟨P, 0, none⟩), .int .i64 25] w1 _ from rfail_at 25 P w1 _ _ B0.out)
      have P2 := Lib.hid (fun (w2 : World) (b : w2.heap[P]? = some (.cells #[.slice a n c, .int .i64 (t : Int), .int .i64 25] 64 (0, 0))) => show w2.cell? ⟨P, 2, none⟩ = some (.int .i64 25) from cell_at (i := 2) b rfl)
      go_wp2_with (go_at_call 26; ((with_reducible refine F.out.mono ?_); rintro en w2 ⟨rfl, bz, kz⟩; have d2 := P2.out _ bz; have d2' : w2.drew.cell? ⟨P, 2, none⟩ = some (.int .i64 25) := d2; have BZ := Lib.hid (And.intro bz kz); clear bz kz))
      go_quiet (fail)
      go_wp2_with fail
      go_ret
      rw [HE.out, if_pos hneg]
      exact ⟨rfl, T1.out.trans (rf_fail HR.out HF.out (by decide) BZ.out.1 (BZ.out.2.drewN _))⟩
    · obtain ⟨u, rfl⟩ : ∃ u : Nat, v = u := ⟨v.toNat, by omega⟩
      have tn : wrap64 ((n : Int) - t) = ((n - t : Nat) : Int) := by unfold wrap64; omega
      obtain ⟨m, hm⟩ : ∃ m, m = n - t := ⟨_, rfl⟩
      have tn2 : IntKind.i64.wrap ((n : Int) - t) = (m : Int) := by rw [hm, wrap_i64 _ (by omega) (by omega)]; omega
      rw [← hm] at tn HY
      have hm2 : m ≤ 1000000 := by omega
      clear hm
      by_cases hbig : m < u
      · have hbig2 : (m : Int) < (u : Int) := by omega
        go_wp2_with fail
        go_quiet (fail)
        have B1 := Lib.hid (show (w1.drewN nq).heap[P]? = some (.cells #[.slice a n c, .int .i64 (t : Int), .int .i64 0] 64 (0, 0)) from B0.out)
        have K1 := Lib.hid (show Keeps (fun q => q = P) w1 (w1.drewN nq) from (Keeps.refl _ _).drewN nq)
        obtain ⟨w3, hw3⟩ : ∃ w3, w3 = w1.drewN nq := ⟨_, rfl⟩
        rw [← hw3] at B1 K1
        rw [← hw3]
        clear hw3
        have F := Lib.hid (show Calls Try.prog 26 #[.pointer (some ⟨P, 0, none⟩), .int .i64 20] w3 _ from rfail_at 20 P w3 _ _ B1.out)
        go_wp2_with (go_at_call 26; ((with_reducible refine F.out.mono ?_); rintro en w2 ⟨rfl, bz, kz⟩; have d2 : w2.cell? ⟨P, 2, none⟩ = some (.int .i64 20) := cell_at (i := 2) bz rfl; have BZ := Lib.hid (And.intro bz kz); clear bz kz))
        go_ret
        rw [HE.out, if_neg (by omega), if_pos (by rw [HY.out]; exact hbig2)]
        exact ⟨rfl, T1.out.trans (rf_fail HR.out HF.out (by decide) BZ.out.1 (K1.out.trans BZ.out.2 (fun _ _ x => x)))⟩
      · have hbig2 : ¬ (m : Int) < (u : Int) := by omega
        go_wp2_with fail
        go_quiet (fail)
        go_wp2_with fail
        go_ret
        rw [HE.out, if_neg (by omega), if_neg (by rw [HY.out]; omega)]
        refine ⟨rfl, T1.out.trans ⟨?_, (Keeps.refl _ _).drewN _⟩⟩
        exact Rf.later ⟨_, _, HR.out⟩ ((Keeps.refl none' _).drewN _)
  · have b1 : ((s1.f : Int) == 0) = false := by simp [hf]
    have b2 : ((s1.f : Int) != 0) = true := by simp [hf]
    have HF := Lib.hid hf
    clear hf
    go_wp2_with fail
    go_quiet (fail)
    go_wp2_with fail
    go_ret
    rw [hcf.out HF.out]
    refine ⟨rfl, T1.out.trans ⟨?_, (Keeps.refl _ _).drewN _⟩⟩
    exact Rf.later ⟨_, _, HR.out⟩ ((Keeps.refl none' _).drewN _)
end Go.Proofs.Ytcdhpidglchinaa
