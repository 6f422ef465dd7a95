/- TileFrees, its walk. -/
import Derived.Test.YtkafccdbofoepaaUC
import Derived.StillTailTactics
namespace Go.Proofs.Ytkafccdbofoepaa
open Go.RowKit Go.Maps
set_option linter.unusedVariables false

set_option maxRecDepth 100000 in
set_option maxHeartbeats 3200000 in
theorem frees_good (a0 : Option Addr) (n0 c0 : Nat) (xs : List Op) (cap : Nat) (w : World) (h0 : n0 ≤ 40) (h1 : cap ≤ 200) (hx : Ops w a0 n0 xs) : Calls Try.prog 5 #[.slice a0 n0 c0, .int .i64 (cap : Int)] w (Yes w) := by
  have A := Lib.hid (anchor_any w)
  have t : decide ((40 : Int) < n0) = false := by simp; omega
  have t2 : decide ((cap : Int) < 0) = false := decide_eq_false (by omega)
  have t3 : decide ((200 : Int) < cap) = false := by simp; omega
  have X0 := Lib.hid hx
  clear hx
  go_enter Try.func5, Try.ntmps5
  go_wp2_with fail
  refine A.out.mono ?_
  rintro e w1 ⟨rfl, hk⟩
  have K1 := Lib.hid hk
  have C1 := Lib.hid (new_yes cap w1 (by omega))
  clear hk A
  go_wp2_with fail
  refine C1.out.mono ?_
  rintro e w2 ⟨rfl, hR, hK, -⟩
  have L1 := Lib.hid (low_new w1.heap.size cap w.heap.size K1.out.size)
  have K2 := Lib.hid (K1.out.trans hK (fun _ _ h => h))
  have C2 := Lib.hid (plane_yes w2 _ hR 50 50 (by omega) (by omega) (by simp [St.new]))
  clear hR hK C1 K1
  generalize w1.heap.size = A at *
  go_wp2_with fail
  refine C2.out.mono ?_
  rintro e w3 ⟨p, rfl, hR, hK, -, -, -, -, hpb, hmb⟩
  have O1 := Lib.hid (show Fr w A cap ((St.new A cap).more p) (.slice (some ⟨w3.heap.size, 0, none⟩) 1 1) (w3.alloc (.cells #[.pointer (some ⟨p.pb, 0, none⟩)] 26)) from
    ⟨hR.later ((Keeps.refl none' w3).alloc _), rfl, rfl, L1.out.more (by have := K2.out.size; omega) (by have := K2.out.size; omega), (K2.out.trans hK (fun _ _ h => h)).alloc _, Row.one (Nat.le_trans K2.out.size hK.size) p⟩)
  have hl : ((St.new A cap).more p).ps.length = 1 := rfl
  clear hR hK hpb hmb C2 L1 K2
  generalize (St.new A cap).more p = S0 at *
  go_wp2_with fail
  go_loopw [8, 39] (fun l cnt wr => ∃ (i : Nat) (S : St) (aa : Option Addr) (n cp : Nat), i ≤ n0 ∧ cnt = .int .i64 i ∧ l = .slice aa n cp ∧ S.ps.length = n ∧ n ≤ i + 1 ∧ Fr w A cap S (.slice aa n cp) wr) (fun _ cnt _ => n0 - (intOf cnt).toNat)
  case atStart => exact ⟨0, S0, _, _, _, by omega, rfl, rfl, hl, by omega, O1.out⟩
  case round =>
    clear O1 hl S0
    obtain ⟨i, S, aa, n, cp, hi, rfl, rfl, hn, hni, hO⟩ := hrel
    have HH := Lib.hid hO
    have LN := Lib.hid hn
    clear hO hn
    by_cases hlt : i < n0
    · obtain ⟨b, off, x, rfl, -, c0, c1, c2, c3, c4, c5, c6, hfit⟩ := (X0.out.later HH.out.keeps).at hlt
      obtain ⟨Kd, Nn, X, Y, W, H, V⟩ := x
      obtain ⟨-, -, hX, hY, -, -, -⟩ := hfit
      simp only at c0 c1 c2 c3 c4 c5 c6 hX hY
      have hii : (i : Int) < (n0 : Int) := by omega
      have XY := Lib.hid (And.intro hX hY)
      clear hX hY
      have H2 := Lib.hid (HH.out.later ((Keeps.refl none' wr).alloc (.cells #[.int .i64 Kd, .int .i64 Nn, .int .i64 X, .int .i64 Y, .int .i64 W, .int .i64 H, .int .i64 V] 39)))
      by_cases hb : Nn < 0
      · have v1 : decide (Nn < 0) = true := decide_eq_true hb
        clear hb
        go_wp2_with fail
        go_roundw
        case rel => exact ⟨i + 1, S, aa, n, cp, by omega, by go_num, rfl, LN.out, by omega, H2.out⟩
        case measure => simp [intOf]; omega
      have v1 : decide (Nn < 0) = false := decide_eq_false hb
      by_cases hb2 : (n : Int) ≤ Nn
      · have v2 : decide ((n : Int) ≤ Nn) = true := decide_eq_true hb2
        clear hb hb2
        go_wp2_with fail
        go_roundw
        case rel => exact ⟨i + 1, S, aa, n, cp, by omega, by go_num, rfl, LN.out, by omega, H2.out⟩
        case measure => simp [intOf]; omega
      have v2 : decide ((n : Int) ≤ Nn) = false := decide_eq_false hb2
      obtain ⟨k, rfl⟩ : ∃ k : Nat, Nn = k := ⟨Nn.toNat, by omega⟩
      have hkn : (k : Int) < (n : Int) := by omega
      have hk0 : (0 : Int) ≤ (k : Int) := by omega
      obtain ⟨p, hp⟩ : ∃ p, S.ps[k]? = some p := ⟨_, List.getElem?_eq_getElem (by have := LN.out; omega)⟩
      obtain ⟨-, g, rfl, q0⟩ := H2.out.row.at hp
      have HP := Lib.hid hp
      clear hb hb2 hp HH
      by_cases k1 : Kd = 1
      · subst k1
        have C := Lib.hid (fun w' (hF : Fr w A cap S (.slice (some ⟨g, 0, none⟩) n cp) w') => hF.setC HP.out X Y V)
        go_wp2_with fail
        obtain ⟨wq, hwq⟩ : ∃ wq, wq = wr.alloc (.cells #[.int .i64 1, .int .i64 (k : Int), .int .i64 X, .int .i64 Y, .int .i64 W, .int .i64 H, .int .i64 V] 39) := ⟨_, rfl⟩
        obtain ⟨T, hT⟩ : ∃ T, T = wr.heap.size := ⟨_, rfl⟩
        have FQ := Lib.hid (show Fr w A cap S (.slice (some ⟨g, 0, none⟩) n cp) wq by rw [hwq]; exact H2.out)
        have q1 : wq.cell? ⟨g, k, none⟩ = some (.pointer (some ⟨p.pb, 0, none⟩)) := by rw [hwq]; exact q0
        have hb : wq.heap[T]? = some (.cells #[.int .i64 1, .int .i64 (k : Int), .int .i64 X, .int .i64 Y, .int .i64 W, .int .i64 H, .int .i64 V] 39 (0, 0)) := by rw [hwq, hT]; exact heap_alloc_new _ _
        have b1 : wq.cell? ⟨T, 1, none⟩ = some (.int .i64 (k : Int)) := by simp [World.cell?, hb]
        have b2 : wq.cell? ⟨T, 2, none⟩ = some (.int .i64 X) := by simp [World.cell?, hb]
        have b3 : wq.cell? ⟨T, 3, none⟩ = some (.int .i64 Y) := by simp [World.cell?, hb]
        have b4 : wq.cell? ⟨T, 4, none⟩ = some (.int .i64 W) := by simp [World.cell?, hb]
        have b5 : wq.cell? ⟨T, 5, none⟩ = some (.int .i64 H) := by simp [World.cell?, hb]
        have b6 : wq.cell? ⟨T, 6, none⟩ = some (.int .i64 V) := by simp [World.cell?, hb]
        rw [← hwq, ← hT]
        clear hwq hT q0 c0 c1 c2 c3 c4 c5 c6 hb H2 X0 HP XY
        go_still_tail 11, (by kernel_rfl)
        change wpList _ _ _ _ _ wq.drew
        have FD := Lib.hid (FQ.out.later (Keeps.refl none' _).drew)
        have C := Lib.hid (C.out _ FD.out)
        clear q1 b1 b2 b3 b4 b5 b6 FQ
        generalize wq.drew = wd at *
        go_wp2_with fail
        refine C.out.mono ?_
        rintro e w2 ⟨c, rfl, S', hn', hF⟩
        have F2 := Lib.hid hF
        have LN := Lib.hid (hn'.trans LN.out)
        clear hF hn'
        obtain ⟨f, hf, TF⟩ := F2.out.freeC
        have TF := Lib.hid TF
        have u1 : decide ((f : Int) < 0) = false := decide_eq_false (by omega)
        have u2 : decide ((cap : Int) < (f : Int)) = false := decide_eq_false (by omega)
        have u3 : decide (cap < f) = false := decide_eq_false (by omega)
        have u4 : ¬ ((cap : Int) < (f : Int)) := by omega
        clear hf
        go_wp2_with fail
        refine TF.out.mono ?_
        rintro e w2 ⟨rfl, rfl⟩
        go_wp2_with fail
        refine TF.out.mono ?_
        rintro e w2 ⟨rfl, rfl⟩
        go_wp2_with fail
        go_roundw
        case rel => exact ⟨i + 1, S', (some ⟨g, 0, none⟩), n, cp, by omega, by go_num, rfl, by have := LN.out; omega, by omega, F2.out⟩
        case measure => simp [intOf]; omega
      have k1 : (Kd == 1) = false := by simpa using k1
      by_cases k2 : Kd = 2
      · subst k2
        have C := Lib.hid (fun w' (hF : Fr w A cap S (.slice (some ⟨g, 0, none⟩) n cp) w') => hF.fillC HP.out X Y W H V XY.out.1 XY.out.2)
        go_wp2_with fail
        obtain ⟨wq, hwq⟩ : ∃ wq, wq = wr.alloc (.cells #[.int .i64 2, .int .i64 (k : Int), .int .i64 X, .int .i64 Y, .int .i64 W, .int .i64 H, .int .i64 V] 39) := ⟨_, rfl⟩
        obtain ⟨T, hT⟩ : ∃ T, T = wr.heap.size := ⟨_, rfl⟩
        have FQ := Lib.hid (show Fr w A cap S (.slice (some ⟨g, 0, none⟩) n cp) wq by rw [hwq]; exact H2.out)
        have q1 : wq.cell? ⟨g, k, none⟩ = some (.pointer (some ⟨p.pb, 0, none⟩)) := by rw [hwq]; exact q0
        have hb : wq.heap[T]? = some (.cells #[.int .i64 2, .int .i64 (k : Int), .int .i64 X, .int .i64 Y, .int .i64 W, .int .i64 H, .int .i64 V] 39 (0, 0)) := by rw [hwq, hT]; exact heap_alloc_new _ _
        have b1 : wq.cell? ⟨T, 1, none⟩ = some (.int .i64 (k : Int)) := by simp [World.cell?, hb]
        have b2 : wq.cell? ⟨T, 2, none⟩ = some (.int .i64 X) := by simp [World.cell?, hb]
        have b3 : wq.cell? ⟨T, 3, none⟩ = some (.int .i64 Y) := by simp [World.cell?, hb]
        have b4 : wq.cell? ⟨T, 4, none⟩ = some (.int .i64 W) := by simp [World.cell?, hb]
        have b5 : wq.cell? ⟨T, 5, none⟩ = some (.int .i64 H) := by simp [World.cell?, hb]
        have b6 : wq.cell? ⟨T, 6, none⟩ = some (.int .i64 V) := by simp [World.cell?, hb]
        rw [← hwq, ← hT]
        clear hwq hT q0 c0 c1 c2 c3 c4 c5 c6 hb H2 X0 HP XY
        go_still_tail 15, (by kernel_rfl)
        change wpList _ _ _ _ _ wq.drew
        have FD := Lib.hid (FQ.out.later (Keeps.refl none' _).drew)
        have C := Lib.hid (C.out _ FD.out)
        clear q1 b1 b2 b3 b4 b5 b6 FQ
        generalize wq.drew = wd at *
        go_wp2_with fail
        refine C.out.mono ?_
        rintro e w2 ⟨c, rfl, S', hn', hF⟩
        have F2 := Lib.hid hF
        have LN := Lib.hid (hn'.trans LN.out)
        clear hF hn'
        obtain ⟨f, hf, TF⟩ := F2.out.freeC
        have TF := Lib.hid TF
        have u1 : decide ((f : Int) < 0) = false := decide_eq_false (by omega)
        have u2 : decide ((cap : Int) < (f : Int)) = false := decide_eq_false (by omega)
        have u3 : decide (cap < f) = false := decide_eq_false (by omega)
        have u4 : ¬ ((cap : Int) < (f : Int)) := by omega
        clear hf
        go_wp2_with fail
        refine TF.out.mono ?_
        rintro e w2 ⟨rfl, rfl⟩
        go_wp2_with fail
        refine TF.out.mono ?_
        rintro e w2 ⟨rfl, rfl⟩
        go_wp2_with fail
        go_roundw
        case rel => exact ⟨i + 1, S', (some ⟨g, 0, none⟩), n, cp, by omega, by go_num, rfl, by have := LN.out; omega, by omega, F2.out⟩
        case measure => simp [intOf]; omega
      have k2 : (Kd == 2) = false := by simpa using k2
      by_cases k3 : Kd = 3
      · subst k3
        have C := Lib.hid (H2.out.snapC HP.out (by have := LN.out; omega))
        go_wp2_with fail
        refine C.out.mono ?_
        rintro e w2 ⟨q, rfl, hS⟩
        have HS := Lib.hid (hS.later ((Keeps.refl none' w2).alloc (.cells #[.pointer (some ⟨q.pb, 0, none⟩)] 26)))
        clear hS H2 q0
        have hcell : (w2.alloc (.cells #[.pointer (some ⟨q.pb, 0, none⟩)] 26)).cell? ⟨w2.heap.size, 0, none⟩ = some (.pointer (some ⟨q.pb, 0, none⟩)) := by rw [World.cell?_alloc_mark]; rfl
        go_wp2_with (at_builtin; go_must (refine wpList_append_ptr rfl (.tmp 89) (.tmp 96) rfl w.heap.size (.slice (some ⟨g, 0, none⟩) n cp) S.ps rfl ?e1 w2.heap.size q rfl ?e2 ?e3 ?e4 ?e5))
        case e1 => exact HS.out.row
        case e2 => exact hcell
        case e3 => have := LN.out; omega
        case e4 => exact HS.out.keeps.size
        case e5 =>
          intro aa2 cap2 w3 hrow hg
          have F2 := Lib.hid (HS.out.done hrow hg)
          rw [LN.out] at F2 ⊢
          have L2 : (S.more q).ps.length = n + 1 := by have := LN.out; simp [St.more]; omega
          clear hrow hg hcell HS
          generalize S.more q = S' at *
          generalize w3 = w2 at *
          obtain ⟨f, hf, TF⟩ := F2.out.freeC
          have TF := Lib.hid TF
          have u1 : decide ((f : Int) < 0) = false := decide_eq_false (by omega)
          have u2 : decide ((cap : Int) < (f : Int)) = false := decide_eq_false (by omega)
          have u3 : decide (cap < f) = false := decide_eq_false (by omega)
          have u4 : ¬ ((cap : Int) < (f : Int)) := by omega
          clear hf
          go_wp2_with fail
          refine TF.out.mono ?_
          rintro e w2 ⟨rfl, rfl⟩
          go_wp2_with fail
          refine TF.out.mono ?_
          rintro e w2 ⟨rfl, rfl⟩
          go_wp2_with fail
          go_roundw
          case rel => exact ⟨i + 1, S', aa2, n + 1, cap2, by omega, by go_num, rfl, L2, by omega, F2.out⟩
          case measure => simp [intOf]; omega
      have k3 : (Kd == 3) = false := by simpa using k3
      by_cases k4 : Kd = 4
      · subst k4
        have C := Lib.hid (H2.out.dropC HP.out)
        go_wp2_with fail
        refine C.out.mono ?_
        rintro e w2 ⟨rfl, hF⟩
        have F2 := Lib.hid hF
        have LN := Lib.hid ((drop_length S k p).trans LN.out)
        clear hF
        generalize S.drop k p = S' at *
        obtain ⟨f, hf, TF⟩ := F2.out.freeC
        have TF := Lib.hid TF
        have u1 : decide ((f : Int) < 0) = false := decide_eq_false (by omega)
        have u2 : decide ((cap : Int) < (f : Int)) = false := decide_eq_false (by omega)
        have u3 : decide (cap < f) = false := decide_eq_false (by omega)
        have u4 : ¬ ((cap : Int) < (f : Int)) := by omega
        clear hf
        go_wp2_with fail
        refine TF.out.mono ?_
        rintro e w2 ⟨rfl, rfl⟩
        go_wp2_with fail
        refine TF.out.mono ?_
        rintro e w2 ⟨rfl, rfl⟩
        go_wp2_with fail
        go_roundw
        case rel => exact ⟨i + 1, S', (some ⟨g, 0, none⟩), n, cp, by omega, by go_num, rfl, by have := LN.out; omega, by omega, F2.out⟩
        case measure => simp [intOf]; omega
      have k4 : (Kd == 4) = false := by simpa using k4
      obtain ⟨w2, hw2⟩ : ∃ w2, w2 = wr.alloc (.cells #[.int .i64 Kd, .int .i64 (k : Int), .int .i64 X, .int .i64 Y, .int .i64 W, .int .i64 H, .int .i64 V] 39) := ⟨_, rfl⟩
      have F2 := H2
      obtain ⟨f, hf, TF⟩ := F2.out.freeC
      have TF := Lib.hid TF
      have u1 : decide ((f : Int) < 0) = false := decide_eq_false (by omega)
      have u2 : decide ((cap : Int) < (f : Int)) = false := decide_eq_false (by omega)
      have u3 : decide (cap < f) = false := decide_eq_false (by omega)
      have u4 : ¬ ((cap : Int) < (f : Int)) := by omega
      clear hf
      go_wp2_with fail
      refine TF.out.mono ?_
      rintro e w3 ⟨rfl, rfl⟩
      go_wp2_with fail
      refine TF.out.mono ?_
      rintro e w3 ⟨rfl, rfl⟩
      go_wp2_with fail
      go_roundw
      case rel => exact ⟨i + 1, S, _, n, cp, by omega, by go_num, rfl, LN.out, by omega, F2.out⟩
      case measure => simp [intOf]; omega
    · obtain rfl : i = n0 := by omega
      clear hlt hi
      go_wp2_with fail
      go_loopw [118] (fun cnt wr => ∃ (r : Nat) (S : St), r ≤ n ∧ cnt = .int .i64 r ∧ S.ps.length = n ∧ (∀ (j : Nat) p, j < r → S.ps[j]? = some p → ∀ a b, p.T a b = none) ∧ Fr w A cap S (.slice aa n cp) wr) (fun cnt _ => n - (intOf cnt).toNat)
      case atStart => exact ⟨0, S, by omega, rfl, LN.out, fun j p hj => by omega, HH.out⟩
      case round =>
        clear HH LN S
        obtain ⟨r, S, hr, rfl, hn, hT, hO⟩ := hrel
        have HH := Lib.hid hO
        have LN := Lib.hid hn
        have TT := Lib.hid hT
        clear hO hn hT
        by_cases hlt : r < n
        · obtain ⟨p, hp⟩ : ∃ p, S.ps[r]? = some p := ⟨_, List.getElem?_eq_getElem (by have := LN.out; omega)⟩
          obtain ⟨-, g, rfl, q0⟩ := HH.out.row.at hp
          have hrn : (r : Int) < (n : Int) := by omega
          have C := Lib.hid (HH.out.dropC hp)
          have HP := Lib.hid hp
          clear hp
          go_wp2_with fail
          refine C.out.mono ?_
          rintro e w2 ⟨rfl, hF⟩
          have CW := Lib.hid (Fr.wiped HP.out hF)
          have F2 := Lib.hid hF
          clear hF q0 C HH
          go_wp2_with fail
          refine CW.out.1.mono ?_
          rintro e w2 ⟨rfl, rfl⟩
          go_wp2_with fail
          refine CW.out.2.mono ?_
          rintro e w3 ⟨rfl, hK⟩
          have F3 := Lib.hid (F2.out.later hK)
          clear hK CW F2
          go_wp2_with fail
          go_roundw
          case rel =>
            refine ⟨r + 1, S.drop r p, by omega, by go_num, (drop_length S r p).trans LN.out, fun j q hj hq => ?_, F3.out⟩
            simp only [St.drop] at hq
            rw [List.getElem?_set] at hq
            split at hq
            · split at hq
              · cases hq
                exact fun _ _ => rfl
              · cases hq
            · exact TT.out j q (by omega) hq
          case measure => simp [intOf]; omega
        · obtain rfl : r = n := by omega
          have e := HH.out.rep.bare (fun k p hk => TT.out k p (by have := LN.out; have := (List.getElem?_eq_some_iff.1 hk).1; omega) hk)
          have C := HH.out.A ▸ free_any wr S HH.out.rep
          rw [e, HH.out.cap] at C
          have C := Lib.hid C
          clear e
          go_wp2_with fail
          refine C.out.mono ?_
          rintro e w2 ⟨rfl, rfl⟩
          have K := Lib.hid HH.out.keeps
          go_wp2_with fail
          go_ret
          exact ⟨rfl, K.out⟩
theorem frees_walk (a0 : Option Addr) (n0 c0 : Nat) (xs : List Op) (N : Int) (w : World) (hx : Ops w a0 n0 xs) (hN : -9223372036854775808 ≤ N ∧ N ≤ 9223372036854775807) : Calls Try.prog 5 #[.slice a0 n0 c0, .int .i64 N] w (Yes w) := by
  by_cases h : 40 < n0 ∨ N < 0 ∨ 200 < N
  · exact frees_long a0 n0 c0 N w h
  · obtain ⟨N, rfl⟩ := Int.eq_ofNat_of_zero_le (a := N) (by omega)
    exact frees_good a0 n0 c0 xs N w (by omega) (by omega) hx
end Go.Proofs.Ytkafccdbofoepaa
