/- AffineBoxes: the refused box. (printed by genLE.py) -/
import Derived.Test.YtfcndldobjpbnaaLDB
import Derived.Test.YtfcndldobjpbnaaJ
namespace Go.Proofs.Ytfcndldobjpbnaa
open Go.RowKit Go.Maps
set_option linter.unusedVariables false

theorem box39_0 (x y pw ph : Int) (w : World) : (Instr.index 39 (.agg #[.int .i64 x, .int .i64 y, .int .i64 pw, .int .i64 ph]) (.int .i64 0)).run Try.prog w = .ok (.int .i64 x) w := by kernel_rfl
theorem box39_1 (x y pw ph : Int) (w : World) : (Instr.index 39 (.agg #[.int .i64 x, .int .i64 y, .int .i64 pw, .int .i64 ph]) (.int .i64 1)).run Try.prog w = .ok (.int .i64 y) w := by kernel_rfl
theorem box39_2 (x y pw ph : Int) (w : World) : (Instr.index 39 (.agg #[.int .i64 x, .int .i64 y, .int .i64 pw, .int .i64 ph]) (.int .i64 2)).run Try.prog w = .ok (.int .i64 pw) w := by kernel_rfl
theorem box39_3 (x y pw ph : Int) (w : World) : (Instr.index 39 (.agg #[.int .i64 x, .int .i64 y, .int .i64 pw, .int .i64 ph]) (.int .i64 3)).run Try.prog w = .ok (.int .i64 ph) w := by kernel_rfl
set_option maxRecDepth 100000 in
set_option maxHeartbeats 6400000 in
theorem boxes_bad (m : Af.M) (x y pw ph : Int) (w : World) (hb : ¬ BoxOk m x y pw ph) : Calls Try.prog 6 #[.agg #[.int .i64 m.a, .int .i64 m.b, .int .i64 m.c, .int .i64 m.d, .int .i64 m.e, .int .i64 m.f], .int .i64 x, .int .i64 y, .int .i64 pw, .int .i64 ph] w (Yes w) := by
  have F0 := Lib.hid (Six.new w 23 m)
  have K0 := Lib.hid (keeps_alloc (w := w) (o := .cells #[.int .i64 m.a, .int .i64 m.b, .int .i64 m.c, .int .i64 m.d, .int .i64 m.e, .int .i64 m.f] 23) rfl)
  have BX := Lib.hid (fun w => box_bad m x y pw ph w hb)
  go_enter Try.func6, Try.ntmps6
  go_upto_region 1 with (fail)
  generalize w.alloc (.cells #[.int .i64 m.a, .int .i64 m.b, .int .i64 m.c, .int .i64 m.d, .int .i64 m.e, .int .i64 m.f] 23) = wa at *
  generalize w.heap.size = B at *
  go_wp2_with fail
  refine (anchor_any _).mono ?_
  rintro e w2 ⟨rfl, hk⟩
  have F1 := Lib.hid (F0.out.later hk)
  have K1 := Lib.hid (K0.out.next hk)
  clear hk F0 K0
  have c0 := F1.out.c0
  have c1 := F1.out.c1
  have c2 := F1.out.c2
  have c3 := F1.out.c3
  have c4 := F1.out.c4
  have c5 := F1.out.c5
  go_upto_region 3 with (fail)
  go_wp2_with fail
  refine (BX.out _).mono ?_
  rintro e w3 ⟨rfl, hk⟩
  have F2 := Lib.hid (F1.out.later hk)
  have K2 := Lib.hid (K1.out.next hk)
  clear hk F1 K1 c0 c1 c2 c3 c4 c5 BX
  have c0 := F2.out.c0
  have c1 := F2.out.c1
  have c2 := F2.out.c2
  have c3 := F2.out.c3
  have c4 := F2.out.c4
  have c5 := F2.out.c5
  go_wp2_with fail
  by_cases h0 : m.ok
  · have C := Lib.hid (fun w => docRight_yes h0 w)
    by_cases s0 : pw ≥ 0
    · have t10 : decide (pw ≥ 0) = true := by simpa using s0
      by_cases s1 : ph ≥ 0
      · have t11 : decide (ph ≥ 0) = true := by simpa using s1
        by_cases hv0 : Af.Up x 32768
        · skip
          by_cases hv1 : Af.Up y 32768
          · skip
            by_cases hv2 : Af.Up pw 32768
            · skip
              by_cases hv3 : Af.Up ph 32768
              · skip
                exact absurd ⟨h0, hv0, hv1, ⟨s0, hv2.2⟩, s1, hv3.2⟩ hb
              · clear hb s0 s1 h0
                refine (C.out _).mono ?_
                rintro e w4 ⟨rfl, hk⟩
                have F3 := Lib.hid (F2.out.later hk)
                have K3 := Lib.hid (K2.out.next hk)
                clear hk F2 K2 c0 c1 c2 c3 c4 c5
                go_wp2_with fail
                go_loopw [16, 55] (fun r cnt wr => (cnt = .int .i64 0 ∧ r = .bool true ∧ wr = w4) ∨ (cnt = .int .i64 1 ∧ r = .bool true ∧ wr = w4) ∨ (cnt = .int .i64 2 ∧ r = .bool true ∧ wr = w4) ∨ (cnt = .int .i64 3 ∧ r = .bool true ∧ wr = w4) ∨ (cnt = .int .i64 4 ∧ r = .bool false ∧ wr = w4)) (fun _ cnt _ => 4 - (intOf cnt).toNat)
                case atStart => exact .inl ⟨rfl, rfl, rfl⟩
                case round =>
                  rcases hrel with ⟨rfl, rfl, hwr⟩ | ⟨rfl, rfl, hwr⟩ | ⟨rfl, rfl, hwr⟩ | ⟨rfl, rfl, hwr⟩ | ⟨rfl, rfl, hwr⟩
                  · subst hwr
                    have hix := box39_0 x y pw ph wr
                    have t1 : decide (x ≥ -32768) = true := by have := hv0.1; simp; omega
                    have t2 : decide (x ≤ 32768) = true := by have := hv0.2; simp; omega
                    go_wp2_with fail
                    go_roundw
                    case rel => exact .inr (.inl ⟨rfl, rfl, trivial⟩)
                    case measure => decide
                  · subst hwr
                    have hix := box39_1 x y pw ph wr
                    have t1 : decide (y ≥ -32768) = true := by have := hv1.1; simp; omega
                    have t2 : decide (y ≤ 32768) = true := by have := hv1.2; simp; omega
                    go_wp2_with fail
                    go_roundw
                    case rel => exact .inr (.inr (.inl ⟨rfl, rfl, trivial⟩))
                    case measure => decide
                  · subst hwr
                    have hix := box39_2 x y pw ph wr
                    have t1 : decide (pw ≥ -32768) = true := by have := hv2.1; simp; omega
                    have t2 : decide (pw ≤ 32768) = true := by have := hv2.2; simp; omega
                    go_wp2_with fail
                    go_roundw
                    case rel => exact .inr (.inr (.inr (.inl ⟨rfl, rfl, trivial⟩)))
                    case measure => decide
                  · subst hwr
                    have hix := box39_3 x y pw ph wr
                    by_cases hl : ph ≥ -32768
                    · have t1 : decide (ph ≥ -32768) = true := by simpa using hl
                      have t2 : decide (ph ≤ 32768) = false := by
                        have : ¬ ph ≤ 32768 := fun h => hv3 ⟨by omega, h⟩
                        simp; omega
                      clear hl
                      go_wp2_with fail
                      go_roundw
                      case rel => exact .inr (.inr (.inr (.inr (⟨rfl, rfl, trivial⟩))))
                      case measure => decide
                    · have t1 : decide (ph ≥ -32768) = false := by simpa using hl
                      clear hl
                      go_wp2_with fail
                      go_roundw
                      case rel => exact .inr (.inr (.inr (.inr (⟨rfl, rfl, trivial⟩))))
                      case measure => decide
                  · subst hwr
                    go_wp2_with fail
                    go_ret
                    exact ⟨rfl, K3.out⟩
            · clear hb s0 s1 h0
              refine (C.out _).mono ?_
              rintro e w4 ⟨rfl, hk⟩
              have F3 := Lib.hid (F2.out.later hk)
              have K3 := Lib.hid (K2.out.next hk)
              clear hk F2 K2 c0 c1 c2 c3 c4 c5
              go_wp2_with fail
              go_loopw [16, 55] (fun r cnt wr => (cnt = .int .i64 0 ∧ r = .bool true ∧ wr = w4) ∨ (cnt = .int .i64 1 ∧ r = .bool true ∧ wr = w4) ∨ (cnt = .int .i64 2 ∧ r = .bool true ∧ wr = w4) ∨ (cnt = .int .i64 3 ∧ r = .bool false ∧ wr = w4) ∨ (cnt = .int .i64 4 ∧ r = .bool false ∧ wr = w4)) (fun _ cnt _ => 4 - (intOf cnt).toNat)
              case atStart => exact .inl ⟨rfl, rfl, rfl⟩
              case round =>
                rcases hrel with ⟨rfl, rfl, hwr⟩ | ⟨rfl, rfl, hwr⟩ | ⟨rfl, rfl, hwr⟩ | ⟨rfl, rfl, hwr⟩ | ⟨rfl, rfl, hwr⟩
                · subst hwr
                  have hix := box39_0 x y pw ph wr
                  have t1 : decide (x ≥ -32768) = true := by have := hv0.1; simp; omega
                  have t2 : decide (x ≤ 32768) = true := by have := hv0.2; simp; omega
                  go_wp2_with fail
                  go_roundw
                  case rel => exact .inr (.inl ⟨rfl, rfl, trivial⟩)
                  case measure => decide
                · subst hwr
                  have hix := box39_1 x y pw ph wr
                  have t1 : decide (y ≥ -32768) = true := by have := hv1.1; simp; omega
                  have t2 : decide (y ≤ 32768) = true := by have := hv1.2; simp; omega
                  go_wp2_with fail
                  go_roundw
                  case rel => exact .inr (.inr (.inl ⟨rfl, rfl, trivial⟩))
                  case measure => decide
                · subst hwr
                  have hix := box39_2 x y pw ph wr
                  by_cases hl : pw ≥ -32768
                  · have t1 : decide (pw ≥ -32768) = true := by simpa using hl
                    have t2 : decide (pw ≤ 32768) = false := by
                      have : ¬ pw ≤ 32768 := fun h => hv2 ⟨by omega, h⟩
                      simp; omega
                    clear hl
                    go_wp2_with fail
                    go_roundw
                    case rel => exact .inr (.inr (.inr (.inl ⟨rfl, rfl, trivial⟩)))
                    case measure => decide
                  · have t1 : decide (pw ≥ -32768) = false := by simpa using hl
                    clear hl
                    go_wp2_with fail
                    go_roundw
                    case rel => exact .inr (.inr (.inr (.inl ⟨rfl, rfl, trivial⟩)))
                    case measure => decide
                · subst hwr
                  have hix := box39_3 x y pw ph wr
                  go_wp2_with fail
                  go_roundw
                  case rel => exact .inr (.inr (.inr (.inr (⟨rfl, rfl, trivial⟩))))
                  case measure => decide
                · subst hwr
                  go_wp2_with fail
                  go_ret
                  exact ⟨rfl, K3.out⟩
          · clear hb s0 s1 h0
            refine (C.out _).mono ?_
            rintro e w4 ⟨rfl, hk⟩
            have F3 := Lib.hid (F2.out.later hk)
            have K3 := Lib.hid (K2.out.next hk)
            clear hk F2 K2 c0 c1 c2 c3 c4 c5
            go_wp2_with fail
            go_loopw [16, 55] (fun r cnt wr => (cnt = .int .i64 0 ∧ r = .bool true ∧ wr = w4) ∨ (cnt = .int .i64 1 ∧ r = .bool true ∧ wr = w4) ∨ (cnt = .int .i64 2 ∧ r = .bool false ∧ wr = w4) ∨ (cnt = .int .i64 3 ∧ r = .bool false ∧ wr = w4) ∨ (cnt = .int .i64 4 ∧ r = .bool false ∧ wr = w4)) (fun _ cnt _ => 4 - (intOf cnt).toNat)
            case atStart => exact .inl ⟨rfl, rfl, rfl⟩
            case round =>
              rcases hrel with ⟨rfl, rfl, hwr⟩ | ⟨rfl, rfl, hwr⟩ | ⟨rfl, rfl, hwr⟩ | ⟨rfl, rfl, hwr⟩ | ⟨rfl, rfl, hwr⟩
              · subst hwr
                have hix := box39_0 x y pw ph wr
                have t1 : decide (x ≥ -32768) = true := by have := hv0.1; simp; omega
                have t2 : decide (x ≤ 32768) = true := by have := hv0.2; simp; omega
                go_wp2_with fail
                go_roundw
                case rel => exact .inr (.inl ⟨rfl, rfl, trivial⟩)
                case measure => decide
              · subst hwr
                have hix := box39_1 x y pw ph wr
                by_cases hl : y ≥ -32768
                · have t1 : decide (y ≥ -32768) = true := by simpa using hl
                  have t2 : decide (y ≤ 32768) = false := by
                    have : ¬ y ≤ 32768 := fun h => hv1 ⟨by omega, h⟩
                    simp; omega
                  clear hl
                  go_wp2_with fail
                  go_roundw
                  case rel => exact .inr (.inr (.inl ⟨rfl, rfl, trivial⟩))
                  case measure => decide
                · have t1 : decide (y ≥ -32768) = false := by simpa using hl
                  clear hl
                  go_wp2_with fail
                  go_roundw
                  case rel => exact .inr (.inr (.inl ⟨rfl, rfl, trivial⟩))
                  case measure => decide
              · subst hwr
                have hix := box39_2 x y pw ph wr
                go_wp2_with fail
                go_roundw
                case rel => exact .inr (.inr (.inr (.inl ⟨rfl, rfl, trivial⟩)))
                case measure => decide
              · subst hwr
                have hix := box39_3 x y pw ph wr
                go_wp2_with fail
                go_roundw
                case rel => exact .inr (.inr (.inr (.inr (⟨rfl, rfl, trivial⟩))))
                case measure => decide
              · subst hwr
                go_wp2_with fail
                go_ret
                exact ⟨rfl, K3.out⟩
        · clear hb s0 s1 h0
          refine (C.out _).mono ?_
          rintro e w4 ⟨rfl, hk⟩
          have F3 := Lib.hid (F2.out.later hk)
          have K3 := Lib.hid (K2.out.next hk)
          clear hk F2 K2 c0 c1 c2 c3 c4 c5
          go_wp2_with fail
          go_loopw [16, 55] (fun r cnt wr => (cnt = .int .i64 0 ∧ r = .bool true ∧ wr = w4) ∨ (cnt = .int .i64 1 ∧ r = .bool false ∧ wr = w4) ∨ (cnt = .int .i64 2 ∧ r = .bool false ∧ wr = w4) ∨ (cnt = .int .i64 3 ∧ r = .bool false ∧ wr = w4) ∨ (cnt = .int .i64 4 ∧ r = .bool false ∧ wr = w4)) (fun _ cnt _ => 4 - (intOf cnt).toNat)
          case atStart => exact .inl ⟨rfl, rfl, rfl⟩
          case round =>
            rcases hrel with ⟨rfl, rfl, hwr⟩ | ⟨rfl, rfl, hwr⟩ | ⟨rfl, rfl, hwr⟩ | ⟨rfl, rfl, hwr⟩ | ⟨rfl, rfl, hwr⟩
            · subst hwr
              have hix := box39_0 x y pw ph wr
              by_cases hl : x ≥ -32768
              · have t1 : decide (x ≥ -32768) = true := by simpa using hl
                have t2 : decide (x ≤ 32768) = false := by
                  have : ¬ x ≤ 32768 := fun h => hv0 ⟨by omega, h⟩
                  simp; omega
                clear hl
                go_wp2_with fail
                go_roundw
                case rel => exact .inr (.inl ⟨rfl, rfl, trivial⟩)
                case measure => decide
              · have t1 : decide (x ≥ -32768) = false := by simpa using hl
                clear hl
                go_wp2_with fail
                go_roundw
                case rel => exact .inr (.inl ⟨rfl, rfl, trivial⟩)
                case measure => decide
            · subst hwr
              have hix := box39_1 x y pw ph wr
              go_wp2_with fail
              go_roundw
              case rel => exact .inr (.inr (.inl ⟨rfl, rfl, trivial⟩))
              case measure => decide
            · subst hwr
              have hix := box39_2 x y pw ph wr
              go_wp2_with fail
              go_roundw
              case rel => exact .inr (.inr (.inr (.inl ⟨rfl, rfl, trivial⟩)))
              case measure => decide
            · subst hwr
              have hix := box39_3 x y pw ph wr
              go_wp2_with fail
              go_roundw
              case rel => exact .inr (.inr (.inr (.inr (⟨rfl, rfl, trivial⟩))))
              case measure => decide
            · subst hwr
              go_wp2_with fail
              go_ret
              exact ⟨rfl, K3.out⟩
      · have t11 : decide (ph ≥ 0) = false := by simpa using s1
        clear hb s0 s1 h0
        refine (C.out _).mono ?_
        rintro e w4 ⟨rfl, hk⟩
        have F3 := Lib.hid (F2.out.later hk)
        have K3 := Lib.hid (K2.out.next hk)
        clear hk F2 K2 c0 c1 c2 c3 c4 c5
        go_wp2_with fail
        go_loopw [16, 55] (fun r cnt wr => (cnt = .int .i64 0 ∧ r = .bool false ∧ wr = w4) ∨ (cnt = .int .i64 1 ∧ r = .bool false ∧ wr = w4) ∨ (cnt = .int .i64 2 ∧ r = .bool false ∧ wr = w4) ∨ (cnt = .int .i64 3 ∧ r = .bool false ∧ wr = w4) ∨ (cnt = .int .i64 4 ∧ r = .bool false ∧ wr = w4)) (fun _ cnt _ => 4 - (intOf cnt).toNat)
        case atStart => exact .inl ⟨rfl, rfl, rfl⟩
        case round =>
          rcases hrel with ⟨rfl, rfl, hwr⟩ | ⟨rfl, rfl, hwr⟩ | ⟨rfl, rfl, hwr⟩ | ⟨rfl, rfl, hwr⟩ | ⟨rfl, rfl, hwr⟩
          · subst hwr
            have hix := box39_0 x y pw ph wr
            go_wp2_with fail
            go_roundw
            case rel => exact .inr (.inl ⟨rfl, rfl, trivial⟩)
            case measure => decide
          · subst hwr
            have hix := box39_1 x y pw ph wr
            go_wp2_with fail
            go_roundw
            case rel => exact .inr (.inr (.inl ⟨rfl, rfl, trivial⟩))
            case measure => decide
          · subst hwr
            have hix := box39_2 x y pw ph wr
            go_wp2_with fail
            go_roundw
            case rel => exact .inr (.inr (.inr (.inl ⟨rfl, rfl, trivial⟩)))
            case measure => decide
          · subst hwr
            have hix := box39_3 x y pw ph wr
            go_wp2_with fail
            go_roundw
            case rel => exact .inr (.inr (.inr (.inr (⟨rfl, rfl, trivial⟩))))
            case measure => decide
          · subst hwr
            go_wp2_with fail
            go_ret
            exact ⟨rfl, K3.out⟩
    · have t10 : decide (pw ≥ 0) = false := by simpa using s0
      clear hb s0 h0
      refine (C.out _).mono ?_
      rintro e w4 ⟨rfl, hk⟩
      have F3 := Lib.hid (F2.out.later hk)
      have K3 := Lib.hid (K2.out.next hk)
      clear hk F2 K2 c0 c1 c2 c3 c4 c5
      go_wp2_with fail
      go_loopw [16, 55] (fun r cnt wr => (cnt = .int .i64 0 ∧ r = .bool false ∧ wr = w4) ∨ (cnt = .int .i64 1 ∧ r = .bool false ∧ wr = w4) ∨ (cnt = .int .i64 2 ∧ r = .bool false ∧ wr = w4) ∨ (cnt = .int .i64 3 ∧ r = .bool false ∧ wr = w4) ∨ (cnt = .int .i64 4 ∧ r = .bool false ∧ wr = w4)) (fun _ cnt _ => 4 - (intOf cnt).toNat)
      case atStart => exact .inl ⟨rfl, rfl, rfl⟩
      case round =>
        rcases hrel with ⟨rfl, rfl, hwr⟩ | ⟨rfl, rfl, hwr⟩ | ⟨rfl, rfl, hwr⟩ | ⟨rfl, rfl, hwr⟩ | ⟨rfl, rfl, hwr⟩
        · subst hwr
          have hix := box39_0 x y pw ph wr
          go_wp2_with fail
          go_roundw
          case rel => exact .inr (.inl ⟨rfl, rfl, trivial⟩)
          case measure => decide
        · subst hwr
          have hix := box39_1 x y pw ph wr
          go_wp2_with fail
          go_roundw
          case rel => exact .inr (.inr (.inl ⟨rfl, rfl, trivial⟩))
          case measure => decide
        · subst hwr
          have hix := box39_2 x y pw ph wr
          go_wp2_with fail
          go_roundw
          case rel => exact .inr (.inr (.inr (.inl ⟨rfl, rfl, trivial⟩)))
          case measure => decide
        · subst hwr
          have hix := box39_3 x y pw ph wr
          go_wp2_with fail
          go_roundw
          case rel => exact .inr (.inr (.inr (.inr (⟨rfl, rfl, trivial⟩))))
          case measure => decide
        · subst hwr
          go_wp2_with fail
          go_ret
          exact ⟨rfl, K3.out⟩
  · have C := Lib.hid (fun w => docRight_no h0 w)
    clear hb h0
    refine (C.out _).mono ?_
    rintro e w4 ⟨rfl, hk⟩
    have F3 := Lib.hid (F2.out.later hk)
    have K3 := Lib.hid (K2.out.next hk)
    clear hk F2 K2 c0 c1 c2 c3 c4 c5
    go_wp2_with fail
    go_loopw [16, 55] (fun r cnt wr => (cnt = .int .i64 0 ∧ r = .bool false ∧ wr = w4) ∨ (cnt = .int .i64 1 ∧ r = .bool false ∧ wr = w4) ∨ (cnt = .int .i64 2 ∧ r = .bool false ∧ wr = w4) ∨ (cnt = .int .i64 3 ∧ r = .bool false ∧ wr = w4) ∨ (cnt = .int .i64 4 ∧ r = .bool false ∧ wr = w4)) (fun _ cnt _ => 4 - (intOf cnt).toNat)
    case atStart => exact .inl ⟨rfl, rfl, rfl⟩
    case round =>
      rcases hrel with ⟨rfl, rfl, hwr⟩ | ⟨rfl, rfl, hwr⟩ | ⟨rfl, rfl, hwr⟩ | ⟨rfl, rfl, hwr⟩ | ⟨rfl, rfl, hwr⟩
      · subst hwr
        have hix := box39_0 x y pw ph wr
        go_wp2_with fail
        go_roundw
        case rel => exact .inr (.inl ⟨rfl, rfl, trivial⟩)
        case measure => decide
      · subst hwr
        have hix := box39_1 x y pw ph wr
        go_wp2_with fail
        go_roundw
        case rel => exact .inr (.inr (.inl ⟨rfl, rfl, trivial⟩))
        case measure => decide
      · subst hwr
        have hix := box39_2 x y pw ph wr
        go_wp2_with fail
        go_roundw
        case rel => exact .inr (.inr (.inr (.inl ⟨rfl, rfl, trivial⟩)))
        case measure => decide
      · subst hwr
        have hix := box39_3 x y pw ph wr
        go_wp2_with fail
        go_roundw
        case rel => exact .inr (.inr (.inr (.inr (⟨rfl, rfl, trivial⟩))))
        case measure => decide
      · subst hwr
        go_wp2_with fail
        go_ret
        exact ⟨rfl, K3.out⟩
end Go.Proofs.Ytfcndldobjpbnaa
