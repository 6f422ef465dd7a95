/- The document's num. -/
import Derived.Test.YtcdhpidglchinaaRA
namespace Go.Proofs.Ytcdhpidglchinaa
open Go.RowKit Go.Lib Pk
set_option linter.unusedSimpArgs false
set_option linter.unusedVariables false

set_option maxRecDepth 100000 in
set_option maxHeartbeats 3200000 in
theorem Rnum_any (w : World) (Q P : Nat) (zs : List Nat) (s : St) (h : Rf w Q P zs s) (hl : zs.length ≤ 1000000) : Calls Try.prog 23 #[.pointer (some ⟨P, 0, none⟩)] w fun en w' => en = .returned (.int .i64 (num s).1) ∧ RfNext w Q P zs (num s).2 w' := by
  obtain ⟨⟨a, n, c⟩, t0, h⟩ := h
  have H := Lib.hid h
  have b0 := h.block
  have hn : zs.length = n := by have := h.cells.len; rw [bys_length] at this; simpa using this
  have hn2 : n ≤ 1000000 := by omega
  have c2 : w.cell? ⟨P, 2, none⟩ = some (.int .i64 (s.f : Int)) := cell_at (i := 2) b0 rfl
  by_cases hf : s.f = 0
  · have hb : ((s.f : Int) != 0) = false := by rw [hf]; rfl
    have hy := h.here hf
    have ht0 := h.at_
    have B0 := Lib.hid (show w.heap[P]? = some (.cells #[.slice a n c, .int .i64 ((t0 + 0 : Nat) : Int), .int .i64 0] 64 (0, 0)) by rw [b0, hf]; rfl)
    have O0 := Lib.hid (onway0 s.ys)
    have HF := Lib.hid (And.intro hf (And.intro hy (And.intro hn ht0)))
    rw [hf] at c2
    clear b0 h hn hl hf hy ht0
    go_enter Try.func23, Try.ntmps23
    go_wp2_with fail
    go_loopw [3, 4, 5] (fun nv gv kv wr => ∃ (k A M t : Nat) (b : Bool), kv = .int .i64 k ∧ nv = .int .i64 M ∧ gv = .bool b ∧ M = A / 2 ∧ t = t0 + k ∧ b = (A % 2 == 1) ∧ OnWay s.ys A k ∧ t ≤ n ∧ wr.heap[P]? = some (.cells #[.slice a n c, .int .i64 (t : Int), .int .i64 0] 64 (0, 0)) ∧ Keeps (fun q => q = P) w wr) (fun _ _ kv _ => 10 - (intOf kv).toNat)
    case atStart => exact ⟨0, 0, 0, t0, false, rfl, rfl, rfl, rfl, rfl, rfl, O0.out, by have := HF.out.2.2; omega, by simpa using B0.out, Keeps.refl _ _⟩
    case round =>
      obtain ⟨k, A, M, t, bb, rfl, rfl, rfl, hM, ht, hb', hw, htn, hblk, hk⟩ := hrel
      have HB := Lib.hid hblk
      have HK := Lib.hid hk
      have HW := Lib.hid hw
      have HE := Lib.hid (And.intro hM (And.intro ht hb'))
      have hk9 : k ≤ 9 := hw.2.2
      have c0 : wr.cell? ⟨P, 0, none⟩ = some (.slice a n c) := cell_at (i := 0) hblk rfl
      have c1 : wr.cell? ⟨P, 1, none⟩ = some (.int .i64 (t : Int)) := cell_at (i := 1) hblk rfl
      have f1 := free_at (i := 1) hblk
      clear hM ht hb' hw hblk hk
      by_cases hend : t < n
      · obtain ⟨y, hy⟩ : ∃ y, zs[t]? = some y := ⟨_, List.getElem?_eq_getElem (by have := HF.out.2.2.1; omega)⟩
        obtain ⟨b, off, e, hbl, hc⟩ := H.out.cells.at (bys_at hy)
        simp only at e
        subst e
        have hcr := HK.out.cellS (by have h1 := H.out.low ⟨b, off, none⟩ rfl (by show 0 < n; omega); have h2 := H.out.le; simp only at h1; omega) hc
        have hy256 : y < 256 := H.out.lt y (at_mem hy)
        have hyk : s.ys[k]? = some y := by rw [HF.out.2.1, List.getElem?_drop, ← HE.out.2.1]; exact hy
        have HY := Lib.hid hyk
        clear hy hbl hc hyk
        have HC := Lib.hid hcr
        have tn1 : (t : Int) < n := by omega
        have tn2 : (0 : Int) ≤ (t : Int) := by omega
        by_cases hbad : (0 < k ∧ y = 0) ∨ (k = 9 ∧ 1 < y)
        · have HD2 := Lib.hid (onway_bad HW.out HY.out hbad)
          by_cases h9 : k = 9
          · have g2 : ((k : Int) == 9) = true := by rw [h9]; rfl
            have g00 : ((k : Int) == 0) = false := by rw [h9]; rfl
            have hk0 : 0 < k := by omega
            by_cases h1 : 1 < y
            · have g3 : (1 : Int) < y := by omega
              clear hbad h9 h1
              go_wp2_with fail
              go_quiet (fail)
              obtain ⟨wm, hwm⟩ : ∃ wm, wm = wr.drewN nq := ⟨_, rfl⟩
              rw [← hwm]
              have HB := Lib.hid (show wm.heap[P]? = some (.cells #[.slice (some ⟨b, off, none⟩) n c, .int .i64 (t : Int), .int .i64 0] 64 (0, 0)) by rw [hwm]; exact HB.out)
              have HK := Lib.hid (show Keeps (fun q => q = P) w wm by rw [hwm]; exact HK.out.drewN _)
              have HC := Lib.hid (show wm.cell? ⟨b, off + t, none⟩ = some (.int .u8 (y : Int)) by rw [hwm]; exact HC.out)
              have hcr := HC.out
              have c0 : wm.cell? ⟨P, 0, none⟩ = some (.slice (some ⟨b, off, none⟩) n c) := cell_at (i := 0) HB.out rfl
              have c1 : wm.cell? ⟨P, 1, none⟩ = some (.int .i64 (t : Int)) := cell_at (i := 1) HB.out rfl
              have f1 : wm.frozen? ⟨P, 1, none⟩ = false := free_at (i := 1) HB.out
              clear hwm
              go_wp2_with fail
              go_quiet (fail)
              obtain ⟨wn, hwn⟩ : ∃ wn, wn = wm.drewN nq := ⟨_, rfl⟩
              rw [← hwn]
              have HB := Lib.hid (show wn.heap[P]? = some (.cells #[.slice (some ⟨b, off, none⟩) n c, .int .i64 (t : Int), .int .i64 0] 64 (0, 0)) by rw [hwn]; exact HB.out)
              have HK := Lib.hid (show Keeps (fun q => q = P) w wn by rw [hwn]; exact HK.out.drewN _)
              have HC := Lib.hid (show wn.cell? ⟨b, off + t, none⟩ = some (.int .u8 (y : Int)) by rw [hwn]; exact HC.out)
              have hcr := HC.out
              have c0 : wn.cell? ⟨P, 0, none⟩ = some (.slice (some ⟨b, off, none⟩) n c) := cell_at (i := 0) HB.out rfl
              have c1 : wn.cell? ⟨P, 1, none⟩ = some (.int .i64 (t : Int)) := cell_at (i := 1) HB.out rfl
              have f1 : wn.frozen? ⟨P, 1, none⟩ = false := free_at (i := 1) HB.out
              clear hwn
              have hbs := block_set (i := 1) HB.out (.int .i64 ((t : Int) + 1))
              have HF2 := Lib.hid (rfail_at 25 P (wn.setCell ⟨P, 1, none⟩ (.int .i64 ((t : Int) + 1))) (.slice (some ⟨b, off, none⟩) n c) (.int .i64 ((t : Int) + 1)) hbs)
              clear hbs
              have HF3 := Lib.hid (show Calls Try.prog 26 #[.pointer (some ⟨P, 0, none⟩), .int .i64 25] (wn.setCell ⟨P, 1, none⟩ (.int .i64 ((t : Int) + 1))) _ from HF2.out)
              go_wp2_with (go_at_call 26; ((with_reducible refine HF3.out.mono ?_); rintro en wz ⟨rfl, bz, kz⟩; have BZ := Lib.hid (And.intro bz kz); clear bz kz))
              go_ret
              have X := Rnum_fail (wn := wz) (t' := t + 1) (e := 25) H.out HF.out.1 HD2.out (by decide) (by have := HF.out.2.2.1; omega) BZ.out.1 ((HK.out.trans (keeps_at wn P 1 _) (fun _ _ x => x)).trans BZ.out.2 (fun _ _ x => x))
              exact ⟨ret_int X.1.symm, X.2⟩
            · have hy0 : y = 0 := by omega
              have g1 : ((y : Int) == 0) = true := by rw [hy0]; rfl
              have g3 : ¬ (1 : Int) < y := by omega
              clear hbad h9 h1 hy0
              go_wp2_with fail
              go_quiet (fail)
              obtain ⟨wm, hwm⟩ : ∃ wm, wm = wr.drewN nq := ⟨_, rfl⟩
              rw [← hwm]
              have HB := Lib.hid (show wm.heap[P]? = some (.cells #[.slice (some ⟨b, off, none⟩) n c, .int .i64 (t : Int), .int .i64 0] 64 (0, 0)) by rw [hwm]; exact HB.out)
              have HK := Lib.hid (show Keeps (fun q => q = P) w wm by rw [hwm]; exact HK.out.drewN _)
              have HC := Lib.hid (show wm.cell? ⟨b, off + t, none⟩ = some (.int .u8 (y : Int)) by rw [hwm]; exact HC.out)
              have hcr := HC.out
              have c0 : wm.cell? ⟨P, 0, none⟩ = some (.slice (some ⟨b, off, none⟩) n c) := cell_at (i := 0) HB.out rfl
              have c1 : wm.cell? ⟨P, 1, none⟩ = some (.int .i64 (t : Int)) := cell_at (i := 1) HB.out rfl
              have f1 : wm.frozen? ⟨P, 1, none⟩ = false := free_at (i := 1) HB.out
              clear hwm
              go_wp2_with fail
              go_quiet (fail)
              obtain ⟨wn, hwn⟩ : ∃ wn, wn = wm.drewN nq := ⟨_, rfl⟩
              rw [← hwn]
              have HB := Lib.hid (show wn.heap[P]? = some (.cells #[.slice (some ⟨b, off, none⟩) n c, .int .i64 (t : Int), .int .i64 0] 64 (0, 0)) by rw [hwn]; exact HB.out)
              have HK := Lib.hid (show Keeps (fun q => q = P) w wn by rw [hwn]; exact HK.out.drewN _)
              have HC := Lib.hid (show wn.cell? ⟨b, off + t, none⟩ = some (.int .u8 (y : Int)) by rw [hwn]; exact HC.out)
              have hcr := HC.out
              have c0 : wn.cell? ⟨P, 0, none⟩ = some (.slice (some ⟨b, off, none⟩) n c) := cell_at (i := 0) HB.out rfl
              have c1 : wn.cell? ⟨P, 1, none⟩ = some (.int .i64 (t : Int)) := cell_at (i := 1) HB.out rfl
              have f1 : wn.frozen? ⟨P, 1, none⟩ = false := free_at (i := 1) HB.out
              clear hwn
              have hbs := block_set (i := 1) HB.out (.int .i64 ((t : Int) + 1))
              have HF2 := Lib.hid (rfail_at 25 P (wn.setCell ⟨P, 1, none⟩ (.int .i64 ((t : Int) + 1))) (.slice (some ⟨b, off, none⟩) n c) (.int .i64 ((t : Int) + 1)) hbs)
              clear hbs
              have HF3 := Lib.hid (show Calls Try.prog 26 #[.pointer (some ⟨P, 0, none⟩), .int .i64 25] (wn.setCell ⟨P, 1, none⟩ (.int .i64 ((t : Int) + 1))) _ from HF2.out)
              go_wp2_with (go_at_call 26; ((with_reducible refine HF3.out.mono ?_); rintro en wz ⟨rfl, bz, kz⟩; have BZ := Lib.hid (And.intro bz kz); clear bz kz))
              go_ret
              have X := Rnum_fail (wn := wz) (t' := t + 1) (e := 25) H.out HF.out.1 HD2.out (by decide) (by have := HF.out.2.2.1; omega) BZ.out.1 ((HK.out.trans (keeps_at wn P 1 _) (fun _ _ x => x)).trans BZ.out.2 (fun _ _ x => x))
              exact ⟨ret_int X.1.symm, X.2⟩
          · have g2 : ¬ (k : Int) = 9 := by omega
            have hy0 : y = 0 := by omega
            have hk0 : 0 < k := by omega
            have g1 : ((y : Int) == 0) = true := by rw [hy0]; rfl
            clear hbad h9 hy0
            go_wp2_with fail
            go_quiet (fail)
            obtain ⟨wm, hwm⟩ : ∃ wm, wm = wr.drewN nq := ⟨_, rfl⟩
            rw [← hwm]
            have HB := Lib.hid (show wm.heap[P]? = some (.cells #[.slice (some ⟨b, off, none⟩) n c, .int .i64 (t : Int), .int .i64 0] 64 (0, 0)) by rw [hwm]; exact HB.out)
            have HK := Lib.hid (show Keeps (fun q => q = P) w wm by rw [hwm]; exact HK.out.drewN _)
            have HC := Lib.hid (show wm.cell? ⟨b, off + t, none⟩ = some (.int .u8 (y : Int)) by rw [hwm]; exact HC.out)
            have hcr := HC.out
            have c0 : wm.cell? ⟨P, 0, none⟩ = some (.slice (some ⟨b, off, none⟩) n c) := cell_at (i := 0) HB.out rfl
            have c1 : wm.cell? ⟨P, 1, none⟩ = some (.int .i64 (t : Int)) := cell_at (i := 1) HB.out rfl
            have f1 : wm.frozen? ⟨P, 1, none⟩ = false := free_at (i := 1) HB.out
            clear hwm
            go_wp2_with fail
            go_quiet (fail)
            obtain ⟨wn, hwn⟩ : ∃ wn, wn = wm.drewN nq := ⟨_, rfl⟩
            rw [← hwn]
            have HB := Lib.hid (show wn.heap[P]? = some (.cells #[.slice (some ⟨b, off, none⟩) n c, .int .i64 (t : Int), .int .i64 0] 64 (0, 0)) by rw [hwn]; exact HB.out)
            have HK := Lib.hid (show Keeps (fun q => q = P) w wn by rw [hwn]; exact HK.out.drewN _)
            have HC := Lib.hid (show wn.cell? ⟨b, off + t, none⟩ = some (.int .u8 (y : Int)) by rw [hwn]; exact HC.out)
            have hcr := HC.out
            have c0 : wn.cell? ⟨P, 0, none⟩ = some (.slice (some ⟨b, off, none⟩) n c) := cell_at (i := 0) HB.out rfl
            have c1 : wn.cell? ⟨P, 1, none⟩ = some (.int .i64 (t : Int)) := cell_at (i := 1) HB.out rfl
            have f1 : wn.frozen? ⟨P, 1, none⟩ = false := free_at (i := 1) HB.out
            clear hwn
            have hbs := block_set (i := 1) HB.out (.int .i64 ((t : Int) + 1))
            have HF2 := Lib.hid (rfail_at 25 P (wn.setCell ⟨P, 1, none⟩ (.int .i64 ((t : Int) + 1))) (.slice (some ⟨b, off, none⟩) n c) (.int .i64 ((t : Int) + 1)) hbs)
            clear hbs
            have HF3 := Lib.hid (show Calls Try.prog 26 #[.pointer (some ⟨P, 0, none⟩), .int .i64 25] (wn.setCell ⟨P, 1, none⟩ (.int .i64 ((t : Int) + 1))) _ from HF2.out)
            go_wp2_with (go_at_call 26; ((with_reducible refine HF3.out.mono ?_); rintro en wz ⟨rfl, bz, kz⟩; have BZ := Lib.hid (And.intro bz kz); clear bz kz))
            go_ret
            have X := Rnum_fail (wn := wz) (t' := t + 1) (e := 25) H.out HF.out.1 HD2.out (by decide) (by have := HF.out.2.2.1; omega) BZ.out.1 ((HK.out.trans (keeps_at wn P 1 _) (fun _ _ x => x)).trans BZ.out.2 (fun _ _ x => x))
            exact ⟨ret_int X.1.symm, X.2⟩
        · have HD := Lib.hid hbad
          obtain ⟨A2, hA2⟩ : ∃ A2, A2 = A + y % 128 * 128 ^ k := ⟨_, rfl⟩
          obtain ⟨M2, hM2⟩ : ∃ M2, M2 = A2 / 2 := ⟨_, rfl⟩
          have h64 : A2 < 18446744073709551616 := by rw [hA2]; exact onway_lt HW.out hbad
          have HA := Lib.hid (And.intro hA2 (And.intro hM2 h64))
          by_cases hk0 : 0 < k
          · have hy0 : ¬ y = 0 := by omega
            have g0 : ((k : Int) == 0) = false := by simp; omega
            have g1 : ((y : Int) == 0) = false := by simp [hy0]
            have EM := Lib.hid (num_add hk0 HE.out.1 hA2 hM2 h64)
            have PAR := Lib.hid (show bb = (A2 % 2 == 1) from HE.out.2.2.trans (par_add hk0 hA2).symm)
            clear hA2 hM2 h64
            by_cases h9 : k = 9
            · have g2 : ((k : Int) == 9) = true := by rw [h9]; rfl
              have g3 : (y : Int) ≤ 1 := by omega
              have g4 : y < 128 := by omega
              clear h9 hy0 hbad
              by_cases hl : y < 128
              · cases bb with
                | false =>
                  have HD2 := Lib.hid (onway_end HW.out HY.out HD.out hl)
                  have hy2 := Lib.hid (show y % 128 = y by omega)
                  go_wp2_with fail
                  go_quiet (fail)
                  obtain ⟨wm, hwm⟩ : ∃ wm, wm = wr.drewN nq := ⟨_, rfl⟩
                  rw [← hwm]
                  have HB := Lib.hid (show wm.heap[P]? = some (.cells #[.slice (some ⟨b, off, none⟩) n c, .int .i64 (t : Int), .int .i64 0] 64 (0, 0)) by rw [hwm]; exact HB.out)
                  have HK := Lib.hid (show Keeps (fun q => q = P) w wm by rw [hwm]; exact HK.out.drewN _)
                  have HC := Lib.hid (show wm.cell? ⟨b, off + t, none⟩ = some (.int .u8 (y : Int)) by rw [hwm]; exact HC.out)
                  have hcr := HC.out
                  have c0 : wm.cell? ⟨P, 0, none⟩ = some (.slice (some ⟨b, off, none⟩) n c) := cell_at (i := 0) HB.out rfl
                  have c1 : wm.cell? ⟨P, 1, none⟩ = some (.int .i64 (t : Int)) := cell_at (i := 1) HB.out rfl
                  have f1 : wm.frozen? ⟨P, 1, none⟩ = false := free_at (i := 1) HB.out
                  clear hwm
                  go_wp2_with fail
                  go_quiet (fail)
                  obtain ⟨wn, hwn⟩ : ∃ wn, wn = wm.drewN nq := ⟨_, rfl⟩
                  rw [← hwn]
                  have HB := Lib.hid (show wn.heap[P]? = some (.cells #[.slice (some ⟨b, off, none⟩) n c, .int .i64 (t : Int), .int .i64 0] 64 (0, 0)) by rw [hwn]; exact HB.out)
                  have HK := Lib.hid (show Keeps (fun q => q = P) w wn by rw [hwn]; exact HK.out.drewN _)
                  have HC := Lib.hid (show wn.cell? ⟨b, off + t, none⟩ = some (.int .u8 (y : Int)) by rw [hwn]; exact HC.out)
                  have hcr := HC.out
                  have c0 : wn.cell? ⟨P, 0, none⟩ = some (.slice (some ⟨b, off, none⟩) n c) := cell_at (i := 0) HB.out rfl
                  have c1 : wn.cell? ⟨P, 1, none⟩ = some (.int .i64 (t : Int)) := cell_at (i := 1) HB.out rfl
                  have f1 : wn.frozen? ⟨P, 1, none⟩ = false := free_at (i := 1) HB.out
                  clear hwn
                  go_wp2_with fail
                  go_ret
                  have X := Rnum_done (A2 := A2) (k := k) H.out HF.out.1 HF.out.2.1 (by rw [HD2.out, HA.out.1, hy2.out]) HE.out.2.1 (by have := HF.out.2.2.1; omega) HB.out HK.out
                  first
                    | exact ⟨ret_int ((zag_even PAR.out.symm HA.out.2.1).trans X.1.symm), X.2⟩
                    | exact ⟨ret_int ((wrap_neg HA.out.2.1 HA.out.2.2).symm.trans ((zag_even PAR.out.symm HA.out.2.1).trans X.1.symm)), X.2⟩
                    | exact ⟨ret_int (EM.out.trans ((zag_even PAR.out.symm HA.out.2.1).trans X.1.symm)), X.2⟩
                    | (refine ⟨ret_int (Eq.trans (b := wrap64 (-1 - (M2 : Int))) ?_ ((zag_even PAR.out.symm HA.out.2.1).trans X.1.symm)), X.2⟩; rw [EM.out]; done)
                    | (refine ⟨ret_int (Eq.trans (b := -1 - (M2 : Int)) ?_ ((wrap_neg HA.out.2.1 HA.out.2.2).symm.trans ((zag_even PAR.out.symm HA.out.2.1).trans X.1.symm))), X.2⟩; rw [EM.out]; done)
                | true =>
                  have HD2 := Lib.hid (onway_end HW.out HY.out HD.out hl)
                  have hy2 := Lib.hid (show y % 128 = y by omega)
                  go_wp2_with fail
                  go_quiet (fail)
                  obtain ⟨wm, hwm⟩ : ∃ wm, wm = wr.drewN nq := ⟨_, rfl⟩
                  rw [← hwm]
                  have HB := Lib.hid (show wm.heap[P]? = some (.cells #[.slice (some ⟨b, off, none⟩) n c, .int .i64 (t : Int), .int .i64 0] 64 (0, 0)) by rw [hwm]; exact HB.out)
                  have HK := Lib.hid (show Keeps (fun q => q = P) w wm by rw [hwm]; exact HK.out.drewN _)
                  have HC := Lib.hid (show wm.cell? ⟨b, off + t, none⟩ = some (.int .u8 (y : Int)) by rw [hwm]; exact HC.out)
                  have hcr := HC.out
                  have c0 : wm.cell? ⟨P, 0, none⟩ = some (.slice (some ⟨b, off, none⟩) n c) := cell_at (i := 0) HB.out rfl
                  have c1 : wm.cell? ⟨P, 1, none⟩ = some (.int .i64 (t : Int)) := cell_at (i := 1) HB.out rfl
                  have f1 : wm.frozen? ⟨P, 1, none⟩ = false := free_at (i := 1) HB.out
                  clear hwm
                  go_wp2_with fail
                  go_quiet (fail)
                  obtain ⟨wn, hwn⟩ : ∃ wn, wn = wm.drewN nq := ⟨_, rfl⟩
                  rw [← hwn]
                  have HB := Lib.hid (show wn.heap[P]? = some (.cells #[.slice (some ⟨b, off, none⟩) n c, .int .i64 (t : Int), .int .i64 0] 64 (0, 0)) by rw [hwn]; exact HB.out)
                  have HK := Lib.hid (show Keeps (fun q => q = P) w wn by rw [hwn]; exact HK.out.drewN _)
                  have HC := Lib.hid (show wn.cell? ⟨b, off + t, none⟩ = some (.int .u8 (y : Int)) by rw [hwn]; exact HC.out)
                  have hcr := HC.out
                  have c0 : wn.cell? ⟨P, 0, none⟩ = some (.slice (some ⟨b, off, none⟩) n c) := cell_at (i := 0) HB.out rfl
                  have c1 : wn.cell? ⟨P, 1, none⟩ = some (.int .i64 (t : Int)) := cell_at (i := 1) HB.out rfl
                  have f1 : wn.frozen? ⟨P, 1, none⟩ = false := free_at (i := 1) HB.out
                  clear hwn
                  go_wp2_with fail
                  go_ret
                  have X := Rnum_done (A2 := A2) (k := k) H.out HF.out.1 HF.out.2.1 (by rw [HD2.out, HA.out.1, hy2.out]) HE.out.2.1 (by have := HF.out.2.2.1; omega) HB.out HK.out
                  first
                    | exact ⟨ret_int ((zag_odd PAR.out.symm HA.out.2.1 HA.out.2.2).trans X.1.symm), X.2⟩
                    | exact ⟨ret_int ((wrap_neg HA.out.2.1 HA.out.2.2).symm.trans ((zag_odd PAR.out.symm HA.out.2.1 HA.out.2.2).trans X.1.symm)), X.2⟩
                    | exact ⟨ret_int (EM.out.trans ((zag_odd PAR.out.symm HA.out.2.1 HA.out.2.2).trans X.1.symm)), X.2⟩
                    | (refine ⟨ret_int (Eq.trans (b := wrap64 (-1 - (M2 : Int))) ?_ ((zag_odd PAR.out.symm HA.out.2.1 HA.out.2.2).trans X.1.symm)), X.2⟩; rw [EM.out]; done)
                    | (refine ⟨ret_int (Eq.trans (b := -1 - (M2 : Int)) ?_ ((wrap_neg HA.out.2.1 HA.out.2.2).symm.trans ((zag_odd PAR.out.symm HA.out.2.1 HA.out.2.2).trans X.1.symm))), X.2⟩; rw [EM.out]; done)
              · exact absurd g4 hl
            · have g2 : ¬ (k : Int) = 9 := by omega
              clear h9 hy0 hbad
              by_cases hl : y < 128
              · cases bb with
                | false =>
                  have HD2 := Lib.hid (onway_end HW.out HY.out HD.out hl)
                  have hy2 := Lib.hid (show y % 128 = y by omega)
                  go_wp2_with fail
                  go_quiet (fail)
                  obtain ⟨wm, hwm⟩ : ∃ wm, wm = wr.drewN nq := ⟨_, rfl⟩
                  rw [← hwm]
                  have HB := Lib.hid (show wm.heap[P]? = some (.cells #[.slice (some ⟨b, off, none⟩) n c, .int .i64 (t : Int), .int .i64 0] 64 (0, 0)) by rw [hwm]; exact HB.out)
                  have HK := Lib.hid (show Keeps (fun q => q = P) w wm by rw [hwm]; exact HK.out.drewN _)
                  have HC := Lib.hid (show wm.cell? ⟨b, off + t, none⟩ = some (.int .u8 (y : Int)) by rw [hwm]; exact HC.out)
                  have hcr := HC.out
                  have c0 : wm.cell? ⟨P, 0, none⟩ = some (.slice (some ⟨b, off, none⟩) n c) := cell_at (i := 0) HB.out rfl
                  have c1 : wm.cell? ⟨P, 1, none⟩ = some (.int .i64 (t : Int)) := cell_at (i := 1) HB.out rfl
                  have f1 : wm.frozen? ⟨P, 1, none⟩ = false := free_at (i := 1) HB.out
                  clear hwm
                  go_wp2_with fail
                  go_quiet (fail)
                  obtain ⟨wn, hwn⟩ : ∃ wn, wn = wm.drewN nq := ⟨_, rfl⟩
                  rw [← hwn]
                  have HB := Lib.hid (show wn.heap[P]? = some (.cells #[.slice (some ⟨b, off, none⟩) n c, .int .i64 (t : Int), .int .i64 0] 64 (0, 0)) by rw [hwn]; exact HB.out)
                  have HK := Lib.hid (show Keeps (fun q => q = P) w wn by rw [hwn]; exact HK.out.drewN _)
                  have HC := Lib.hid (show wn.cell? ⟨b, off + t, none⟩ = some (.int .u8 (y : Int)) by rw [hwn]; exact HC.out)
                  have hcr := HC.out
                  have c0 : wn.cell? ⟨P, 0, none⟩ = some (.slice (some ⟨b, off, none⟩) n c) := cell_at (i := 0) HB.out rfl
                  have c1 : wn.cell? ⟨P, 1, none⟩ = some (.int .i64 (t : Int)) := cell_at (i := 1) HB.out rfl
                  have f1 : wn.frozen? ⟨P, 1, none⟩ = false := free_at (i := 1) HB.out
                  clear hwn
                  go_wp2_with fail
                  go_ret
                  have X := Rnum_done (A2 := A2) (k := k) H.out HF.out.1 HF.out.2.1 (by rw [HD2.out, HA.out.1, hy2.out]) HE.out.2.1 (by have := HF.out.2.2.1; omega) HB.out HK.out
                  first
                    | exact ⟨ret_int ((zag_even PAR.out.symm HA.out.2.1).trans X.1.symm), X.2⟩
                    | exact ⟨ret_int ((wrap_neg HA.out.2.1 HA.out.2.2).symm.trans ((zag_even PAR.out.symm HA.out.2.1).trans X.1.symm)), X.2⟩
                    | exact ⟨ret_int (EM.out.trans ((zag_even PAR.out.symm HA.out.2.1).trans X.1.symm)), X.2⟩
                    | (refine ⟨ret_int (Eq.trans (b := wrap64 (-1 - (M2 : Int))) ?_ ((zag_even PAR.out.symm HA.out.2.1).trans X.1.symm)), X.2⟩; rw [EM.out]; done)
                    | (refine ⟨ret_int (Eq.trans (b := -1 - (M2 : Int)) ?_ ((wrap_neg HA.out.2.1 HA.out.2.2).symm.trans ((zag_even PAR.out.symm HA.out.2.1).trans X.1.symm))), X.2⟩; rw [EM.out]; done)
                | true =>
                  have HD2 := Lib.hid (onway_end HW.out HY.out HD.out hl)
                  have hy2 := Lib.hid (show y % 128 = y by omega)
                  go_wp2_with fail
                  go_quiet (fail)
                  obtain ⟨wm, hwm⟩ : ∃ wm, wm = wr.drewN nq := ⟨_, rfl⟩
                  rw [← hwm]
                  have HB := Lib.hid (show wm.heap[P]? = some (.cells #[.slice (some ⟨b, off, none⟩) n c, .int .i64 (t : Int), .int .i64 0] 64 (0, 0)) by rw [hwm]; exact HB.out)
                  have HK := Lib.hid (show Keeps (fun q => q = P) w wm by rw [hwm]; exact HK.out.drewN _)
                  have HC := Lib.hid (show wm.cell? ⟨b, off + t, none⟩ = some (.int .u8 (y : Int)) by rw [hwm]; exact HC.out)
                  have hcr := HC.out
                  have c0 : wm.cell? ⟨P, 0, none⟩ = some (.slice (some ⟨b, off, none⟩) n c) := cell_at (i := 0) HB.out rfl
                  have c1 : wm.cell? ⟨P, 1, none⟩ = some (.int .i64 (t : Int)) := cell_at (i := 1) HB.out rfl
                  have f1 : wm.frozen? ⟨P, 1, none⟩ = false := free_at (i := 1) HB.out
                  clear hwm
                  go_wp2_with fail
                  go_quiet (fail)
                  obtain ⟨wn, hwn⟩ : ∃ wn, wn = wm.drewN nq := ⟨_, rfl⟩
                  rw [← hwn]
                  have HB := Lib.hid (show wn.heap[P]? = some (.cells #[.slice (some ⟨b, off, none⟩) n c, .int .i64 (t : Int), .int .i64 0] 64 (0, 0)) by rw [hwn]; exact HB.out)
                  have HK := Lib.hid (show Keeps (fun q => q = P) w wn by rw [hwn]; exact HK.out.drewN _)
                  have HC := Lib.hid (show wn.cell? ⟨b, off + t, none⟩ = some (.int .u8 (y : Int)) by rw [hwn]; exact HC.out)
                  have hcr := HC.out
                  have c0 : wn.cell? ⟨P, 0, none⟩ = some (.slice (some ⟨b, off, none⟩) n c) := cell_at (i := 0) HB.out rfl
                  have c1 : wn.cell? ⟨P, 1, none⟩ = some (.int .i64 (t : Int)) := cell_at (i := 1) HB.out rfl
                  have f1 : wn.frozen? ⟨P, 1, none⟩ = false := free_at (i := 1) HB.out
                  clear hwn
                  go_wp2_with fail
                  go_ret
                  have X := Rnum_done (A2 := A2) (k := k) H.out HF.out.1 HF.out.2.1 (by rw [HD2.out, HA.out.1, hy2.out]) HE.out.2.1 (by have := HF.out.2.2.1; omega) HB.out HK.out
                  first
                    | exact ⟨ret_int ((zag_odd PAR.out.symm HA.out.2.1 HA.out.2.2).trans X.1.symm), X.2⟩
                    | exact ⟨ret_int ((wrap_neg HA.out.2.1 HA.out.2.2).symm.trans ((zag_odd PAR.out.symm HA.out.2.1 HA.out.2.2).trans X.1.symm)), X.2⟩
                    | exact ⟨ret_int (EM.out.trans ((zag_odd PAR.out.symm HA.out.2.1 HA.out.2.2).trans X.1.symm)), X.2⟩
                    | (refine ⟨ret_int (Eq.trans (b := wrap64 (-1 - (M2 : Int))) ?_ ((zag_odd PAR.out.symm HA.out.2.1 HA.out.2.2).trans X.1.symm)), X.2⟩; rw [EM.out]; done)
                    | (refine ⟨ret_int (Eq.trans (b := -1 - (M2 : Int)) ?_ ((wrap_neg HA.out.2.1 HA.out.2.2).symm.trans ((zag_odd PAR.out.symm HA.out.2.1 HA.out.2.2).trans X.1.symm))), X.2⟩; rw [EM.out]; done)
              · have HD2 := Lib.hid (onway_next HW.out HY.out HD.out hl)
                go_wp2_with fail
                go_quiet (fail)
                obtain ⟨wm, hwm⟩ : ∃ wm, wm = wr.drewN nq := ⟨_, rfl⟩
                rw [← hwm]
                have HB := Lib.hid (show wm.heap[P]? = some (.cells #[.slice (some ⟨b, off, none⟩) n c, .int .i64 (t : Int), .int .i64 0] 64 (0, 0)) by rw [hwm]; exact HB.out)
                have HK := Lib.hid (show Keeps (fun q => q = P) w wm by rw [hwm]; exact HK.out.drewN _)
                have HC := Lib.hid (show wm.cell? ⟨b, off + t, none⟩ = some (.int .u8 (y : Int)) by rw [hwm]; exact HC.out)
                have hcr := HC.out
                have c0 : wm.cell? ⟨P, 0, none⟩ = some (.slice (some ⟨b, off, none⟩) n c) := cell_at (i := 0) HB.out rfl
                have c1 : wm.cell? ⟨P, 1, none⟩ = some (.int .i64 (t : Int)) := cell_at (i := 1) HB.out rfl
                have f1 : wm.frozen? ⟨P, 1, none⟩ = false := free_at (i := 1) HB.out
                clear hwm
                go_wp2_with fail
                go_quiet (fail)
                obtain ⟨wn, hwn⟩ : ∃ wn, wn = wm.drewN nq := ⟨_, rfl⟩
                rw [← hwn]
                have HB := Lib.hid (show wn.heap[P]? = some (.cells #[.slice (some ⟨b, off, none⟩) n c, .int .i64 (t : Int), .int .i64 0] 64 (0, 0)) by rw [hwn]; exact HB.out)
                have HK := Lib.hid (show Keeps (fun q => q = P) w wn by rw [hwn]; exact HK.out.drewN _)
                have HC := Lib.hid (show wn.cell? ⟨b, off + t, none⟩ = some (.int .u8 (y : Int)) by rw [hwn]; exact HC.out)
                have hcr := HC.out
                have c0 : wn.cell? ⟨P, 0, none⟩ = some (.slice (some ⟨b, off, none⟩) n c) := cell_at (i := 0) HB.out rfl
                have c1 : wn.cell? ⟨P, 1, none⟩ = some (.int .i64 (t : Int)) := cell_at (i := 1) HB.out rfl
                have f1 : wn.frozen? ⟨P, 1, none⟩ = false := free_at (i := 1) HB.out
                clear hwn
                go_wp2_with fail
                go_roundw
                case rel => exact ⟨k + 1, A2, M2, t + 1, bb, by go_num, by rw [EM.out], rfl, HA.out.2.1, by have := HE.out.2.1; omega, PAR.out, by rw [HA.out.1]; exact HD2.out, by omega, by rw [block_set HB.out]; rfl, HK.out.trans (keeps_at wn P 1 _) (fun _ _ x => x)⟩
                case measure => first | (simp [intOf]; done) | (simp [intOf]; omega)
          · obtain rfl : k = 0 := by omega
            have hA0 : A = 0 := by have := HW.out.2.1; simp at this; exact this
            have e2 : A2 = y % 128 := by rw [hA2, hA0]; simp
            have EM := Lib.hid (show (y : Int) % 128 / 2 = (M2 : Int) by omega)
            by_cases hp : y % 2 = 1
            · have gp : ((y : Int) % 128 % 2 == 1) = true := by simp; omega
              have gp2 : ((y : Int) % 2 == 1) = true := by simp; omega
              have PAR := Lib.hid (show true = (A2 % 2 == 1) from by rw [e2, show y % 128 % 2 = 1 by omega]; rfl)
              clear hA2 hM2 h64 hA0 e2 hp hbad hk0
              by_cases hl : y < 128
              · have HD2 := Lib.hid (onway_end HW.out HY.out HD.out hl)
                have hy2 := Lib.hid (show y % 128 = y by omega)
                go_wp2_with fail
                go_quiet (fail)
                obtain ⟨wm, hwm⟩ : ∃ wm, wm = wr.drewN nq := ⟨_, rfl⟩
                rw [← hwm]
                have HB := Lib.hid (show wm.heap[P]? = some (.cells #[.slice (some ⟨b, off, none⟩) n c, .int .i64 (t : Int), .int .i64 0] 64 (0, 0)) by rw [hwm]; exact HB.out)
                have HK := Lib.hid (show Keeps (fun q => q = P) w wm by rw [hwm]; exact HK.out.drewN _)
                have HC := Lib.hid (show wm.cell? ⟨b, off + t, none⟩ = some (.int .u8 (y : Int)) by rw [hwm]; exact HC.out)
                have hcr := HC.out
                have c0 : wm.cell? ⟨P, 0, none⟩ = some (.slice (some ⟨b, off, none⟩) n c) := cell_at (i := 0) HB.out rfl
                have c1 : wm.cell? ⟨P, 1, none⟩ = some (.int .i64 (t : Int)) := cell_at (i := 1) HB.out rfl
                have f1 : wm.frozen? ⟨P, 1, none⟩ = false := free_at (i := 1) HB.out
                clear hwm
                go_wp2_with fail
                go_quiet (fail)
                obtain ⟨wn, hwn⟩ : ∃ wn, wn = wm.drewN nq := ⟨_, rfl⟩
                rw [← hwn]
                have HB := Lib.hid (show wn.heap[P]? = some (.cells #[.slice (some ⟨b, off, none⟩) n c, .int .i64 (t : Int), .int .i64 0] 64 (0, 0)) by rw [hwn]; exact HB.out)
                have HK := Lib.hid (show Keeps (fun q => q = P) w wn by rw [hwn]; exact HK.out.drewN _)
                have HC := Lib.hid (show wn.cell? ⟨b, off + t, none⟩ = some (.int .u8 (y : Int)) by rw [hwn]; exact HC.out)
                have hcr := HC.out
                have c0 : wn.cell? ⟨P, 0, none⟩ = some (.slice (some ⟨b, off, none⟩) n c) := cell_at (i := 0) HB.out rfl
                have c1 : wn.cell? ⟨P, 1, none⟩ = some (.int .i64 (t : Int)) := cell_at (i := 1) HB.out rfl
                have f1 : wn.frozen? ⟨P, 1, none⟩ = false := free_at (i := 1) HB.out
                clear hwn
                go_wp2_with fail
                go_ret
                have X := Rnum_done (A2 := A2) (k := 0) H.out HF.out.1 HF.out.2.1 (by rw [HD2.out, HA.out.1, hy2.out]) HE.out.2.1 (by have := HF.out.2.2.1; omega) HB.out HK.out
                first
                  | exact ⟨ret_int ((zag_odd PAR.out.symm HA.out.2.1 HA.out.2.2).trans X.1.symm), X.2⟩
                  | exact ⟨ret_int ((wrap_neg HA.out.2.1 HA.out.2.2).symm.trans ((zag_odd PAR.out.symm HA.out.2.1 HA.out.2.2).trans X.1.symm)), X.2⟩
                  | exact ⟨ret_int (EM.out.trans ((zag_odd PAR.out.symm HA.out.2.1 HA.out.2.2).trans X.1.symm)), X.2⟩
                  | (refine ⟨ret_int (Eq.trans (b := wrap64 (-1 - (M2 : Int))) ?_ ((zag_odd PAR.out.symm HA.out.2.1 HA.out.2.2).trans X.1.symm)), X.2⟩; rw [EM.out]; done)
                  | (refine ⟨ret_int (Eq.trans (b := -1 - (M2 : Int)) ?_ ((wrap_neg HA.out.2.1 HA.out.2.2).symm.trans ((zag_odd PAR.out.symm HA.out.2.1 HA.out.2.2).trans X.1.symm))), X.2⟩; rw [EM.out]; done)
              · have HD2 := Lib.hid (onway_next HW.out HY.out HD.out hl)
                go_wp2_with fail
                go_quiet (fail)
                obtain ⟨wm, hwm⟩ : ∃ wm, wm = wr.drewN nq := ⟨_, rfl⟩
                rw [← hwm]
                have HB := Lib.hid (show wm.heap[P]? = some (.cells #[.slice (some ⟨b, off, none⟩) n c, .int .i64 (t : Int), .int .i64 0] 64 (0, 0)) by rw [hwm]; exact HB.out)
                have HK := Lib.hid (show Keeps (fun q => q = P) w wm by rw [hwm]; exact HK.out.drewN _)
                have HC := Lib.hid (show wm.cell? ⟨b, off + t, none⟩ = some (.int .u8 (y : Int)) by rw [hwm]; exact HC.out)
                have hcr := HC.out
                have c0 : wm.cell? ⟨P, 0, none⟩ = some (.slice (some ⟨b, off, none⟩) n c) := cell_at (i := 0) HB.out rfl
                have c1 : wm.cell? ⟨P, 1, none⟩ = some (.int .i64 (t : Int)) := cell_at (i := 1) HB.out rfl
                have f1 : wm.frozen? ⟨P, 1, none⟩ = false := free_at (i := 1) HB.out
                clear hwm
                go_wp2_with fail
                go_quiet (fail)
                obtain ⟨wn, hwn⟩ : ∃ wn, wn = wm.drewN nq := ⟨_, rfl⟩
                rw [← hwn]
                have HB := Lib.hid (show wn.heap[P]? = some (.cells #[.slice (some ⟨b, off, none⟩) n c, .int .i64 (t : Int), .int .i64 0] 64 (0, 0)) by rw [hwn]; exact HB.out)
                have HK := Lib.hid (show Keeps (fun q => q = P) w wn by rw [hwn]; exact HK.out.drewN _)
                have HC := Lib.hid (show wn.cell? ⟨b, off + t, none⟩ = some (.int .u8 (y : Int)) by rw [hwn]; exact HC.out)
                have hcr := HC.out
                have c0 : wn.cell? ⟨P, 0, none⟩ = some (.slice (some ⟨b, off, none⟩) n c) := cell_at (i := 0) HB.out rfl
                have c1 : wn.cell? ⟨P, 1, none⟩ = some (.int .i64 (t : Int)) := cell_at (i := 1) HB.out rfl
                have f1 : wn.frozen? ⟨P, 1, none⟩ = false := free_at (i := 1) HB.out
                clear hwn
                go_wp2_with fail
                go_roundw
                case rel => exact ⟨0 + 1, A2, M2, t + 1, true, by go_num, by rw [EM.out], rfl, HA.out.2.1, by have := HE.out.2.1; omega, PAR.out, by rw [HA.out.1]; exact HD2.out, by omega, by rw [block_set HB.out]; rfl, HK.out.trans (keeps_at wn P 1 _) (fun _ _ x => x)⟩
                case measure => first | (simp [intOf]; done) | (simp [intOf]; omega)
            · have gp : ((y : Int) % 128 % 2 == 1) = false := by simp; omega
              have gp2 : ((y : Int) % 2 == 1) = false := by simp; omega
              have PAR := Lib.hid (show false = (A2 % 2 == 1) from by rw [e2, show y % 128 % 2 = 0 by omega]; rfl)
              clear hA2 hM2 h64 hA0 e2 hp hbad hk0
              by_cases hl : y < 128
              · have HD2 := Lib.hid (onway_end HW.out HY.out HD.out hl)
                have hy2 := Lib.hid (show y % 128 = y by omega)
                go_wp2_with fail
                go_quiet (fail)
                obtain ⟨wm, hwm⟩ : ∃ wm, wm = wr.drewN nq := ⟨_, rfl⟩
                rw [← hwm]
                have HB := Lib.hid (show wm.heap[P]? = some (.cells #[.slice (some ⟨b, off, none⟩) n c, .int .i64 (t : Int), .int .i64 0] 64 (0, 0)) by rw [hwm]; exact HB.out)
                have HK := Lib.hid (show Keeps (fun q => q = P) w wm by rw [hwm]; exact HK.out.drewN _)
                have HC := Lib.hid (show wm.cell? ⟨b, off + t, none⟩ = some (.int .u8 (y : Int)) by rw [hwm]; exact HC.out)
                have hcr := HC.out
                have c0 : wm.cell? ⟨P, 0, none⟩ = some (.slice (some ⟨b, off, none⟩) n c) := cell_at (i := 0) HB.out rfl
                have c1 : wm.cell? ⟨P, 1, none⟩ = some (.int .i64 (t : Int)) := cell_at (i := 1) HB.out rfl
                have f1 : wm.frozen? ⟨P, 1, none⟩ = false := free_at (i := 1) HB.out
                clear hwm
                go_wp2_with fail
                go_quiet (fail)
                obtain ⟨wn, hwn⟩ : ∃ wn, wn = wm.drewN nq := ⟨_, rfl⟩
                rw [← hwn]
                have HB := Lib.hid (show wn.heap[P]? = some (.cells #[.slice (some ⟨b, off, none⟩) n c, .int .i64 (t : Int), .int .i64 0] 64 (0, 0)) by rw [hwn]; exact HB.out)
                have HK := Lib.hid (show Keeps (fun q => q = P) w wn by rw [hwn]; exact HK.out.drewN _)
                have HC := Lib.hid (show wn.cell? ⟨b, off + t, none⟩ = some (.int .u8 (y : Int)) by rw [hwn]; exact HC.out)
                have hcr := HC.out
                have c0 : wn.cell? ⟨P, 0, none⟩ = some (.slice (some ⟨b, off, none⟩) n c) := cell_at (i := 0) HB.out rfl
                have c1 : wn.cell? ⟨P, 1, none⟩ = some (.int .i64 (t : Int)) := cell_at (i := 1) HB.out rfl
                have f1 : wn.frozen? ⟨P, 1, none⟩ = false := free_at (i := 1) HB.out
                clear hwn
                go_wp2_with fail
                go_ret
                have X := Rnum_done (A2 := A2) (k := 0) H.out HF.out.1 HF.out.2.1 (by rw [HD2.out, HA.out.1, hy2.out]) HE.out.2.1 (by have := HF.out.2.2.1; omega) HB.out HK.out
                first
                  | exact ⟨ret_int ((zag_even PAR.out.symm HA.out.2.1).trans X.1.symm), X.2⟩
                  | exact ⟨ret_int ((wrap_neg HA.out.2.1 HA.out.2.2).symm.trans ((zag_even PAR.out.symm HA.out.2.1).trans X.1.symm)), X.2⟩
                  | exact ⟨ret_int (EM.out.trans ((zag_even PAR.out.symm HA.out.2.1).trans X.1.symm)), X.2⟩
                  | (refine ⟨ret_int (Eq.trans (b := wrap64 (-1 - (M2 : Int))) ?_ ((zag_even PAR.out.symm HA.out.2.1).trans X.1.symm)), X.2⟩; rw [EM.out]; done)
                  | (refine ⟨ret_int (Eq.trans (b := -1 - (M2 : Int)) ?_ ((wrap_neg HA.out.2.1 HA.out.2.2).symm.trans ((zag_even PAR.out.symm HA.out.2.1).trans X.1.symm))), X.2⟩; rw [EM.out]; done)
              · have HD2 := Lib.hid (onway_next HW.out HY.out HD.out hl)
                go_wp2_with fail
                go_quiet (fail)
                obtain ⟨wm, hwm⟩ : ∃ wm, wm = wr.drewN nq := ⟨_, rfl⟩
                rw [← hwm]
                have HB := Lib.hid (show wm.heap[P]? = some (.cells #[.slice (some ⟨b, off, none⟩) n c, .int .i64 (t : Int), .int .i64 0] 64 (0, 0)) by rw [hwm]; exact HB.out)
                have HK := Lib.hid (show Keeps (fun q => q = P) w wm by rw [hwm]; exact HK.out.drewN _)
                have HC := Lib.hid (show wm.cell? ⟨b, off + t, none⟩ = some (.int .u8 (y : Int)) by rw [hwm]; exact HC.out)
                have hcr := HC.out
                have c0 : wm.cell? ⟨P, 0, none⟩ = some (.slice (some ⟨b, off, none⟩) n c) := cell_at (i := 0) HB.out rfl
                have c1 : wm.cell? ⟨P, 1, none⟩ = some (.int .i64 (t : Int)) := cell_at (i := 1) HB.out rfl
                have f1 : wm.frozen? ⟨P, 1, none⟩ = false := free_at (i := 1) HB.out
                clear hwm
                go_wp2_with fail
                go_quiet (fail)
                obtain ⟨wn, hwn⟩ : ∃ wn, wn = wm.drewN nq := ⟨_, rfl⟩
                rw [← hwn]
                have HB := Lib.hid (show wn.heap[P]? = some (.cells #[.slice (some ⟨b, off, none⟩) n c, .int .i64 (t : Int), .int .i64 0] 64 (0, 0)) by rw [hwn]; exact HB.out)
                have HK := Lib.hid (show Keeps (fun q => q = P) w wn by rw [hwn]; exact HK.out.drewN _)
                have HC := Lib.hid (show wn.cell? ⟨b, off + t, none⟩ = some (.int .u8 (y : Int)) by rw [hwn]; exact HC.out)
                have hcr := HC.out
                have c0 : wn.cell? ⟨P, 0, none⟩ = some (.slice (some ⟨b, off, none⟩) n c) := cell_at (i := 0) HB.out rfl
                have c1 : wn.cell? ⟨P, 1, none⟩ = some (.int .i64 (t : Int)) := cell_at (i := 1) HB.out rfl
                have f1 : wn.frozen? ⟨P, 1, none⟩ = false := free_at (i := 1) HB.out
                clear hwn
                go_wp2_with fail
                go_roundw
                case rel => exact ⟨0 + 1, A2, M2, t + 1, false, by go_num, by rw [EM.out], rfl, HA.out.2.1, by have := HE.out.2.1; omega, PAR.out, by rw [HA.out.1]; exact HD2.out, by omega, by rw [block_set HB.out]; rfl, HK.out.trans (keeps_at wn P 1 _) (fun _ _ x => x)⟩
                case measure => first | (simp [intOf]; done) | (simp [intOf]; omega)
      · have hd := Lib.hid (onway_short HW.out (by rw [HF.out.2.1, List.length_drop]; have := HF.out.2.2.1; have := HE.out.2.1; omega))
        go_wp2_with fail
        go_quiet (fail)
        have HF3 := Lib.hid (show Calls Try.prog 26 #[.pointer (some ⟨P, 0, none⟩), .int .i64 20] (wr.drewN nq) _ from rfail_at 20 P (wr.drewN nq) (.slice a n c) (.int .i64 (t : Int)) HB.out)
        have HK2 := Lib.hid (HK.out.drewN nq)
        obtain ⟨wm, hwm⟩ : ∃ wm, wm = wr.drewN nq := ⟨_, rfl⟩
        rw [← hwm] at HF3 HK2
        rw [← hwm]
        clear hwm
        go_wp2_with (go_at_call 26; ((with_reducible refine HF3.out.mono ?_); rintro en wz ⟨rfl, bz, kz⟩; have BZ := Lib.hid (And.intro bz kz); clear bz kz))
        go_ret
        have X := Rnum_fail (wn := wz) (t' := t) (e := 20) H.out HF.out.1 hd.out (by decide) (by have := HF.out.2.2.1; omega) BZ.out.1 (HK2.out.trans BZ.out.2 (fun _ _ x => x))
        exact ⟨ret_int X.1.symm, X.2⟩
  · have hb : ((s.f : Int) != 0) = true := by simp [hf]
    have hb2 : ((s.f : Int) == 0) = false := by simp [hf]
    have HS := Lib.hid (num_bad hf (h.ok hf))
    have HF := Lib.hid hf
    have HO := Lib.hid (h.ok hf)
    clear b0 h hn hl hf
    go_enter Try.func23, Try.ntmps23
    go_wp2_with fail
    go_ret
    rw [HS.out]
    exact ⟨rfl, rf_set (t' := t0) H.out _ (Keeps.refl _ _) H.out.block H.out.at_ (fun _ => rfl) (fun x => absurd x HF.out)⟩
end Go.Proofs.Ytcdhpidglchinaa
