/- The helper that xors ends where one of the lists is empty; the contract of Crash. -/
import Derived.Test.YthddjfaeacmlhaaDoorRF
namespace Go.Proofs.YthddjfaeacmlhaaDoor.Re
open Go.RowKit

def Drawn (w : World) (e : Ending) (w' : World) : Prop := e = .returned (.tuple #[]) ∧ ∃ n, w' = w.drewN n

set_option maxHeartbeats 400000 in
theorem xorEnd_zero (w : World) (ab ag : Option Addr) (nb c ng d : Nat) (hz : nb = 0 ∨ ng = 0) (hc : nb ≤ c) (hd : ng ≤ d) (ha : ab = none → c = 0) (hg : ag = none → d = 0) (hcm : c ≤ maxLen) (hdm : d ≤ maxLen) :
    Calls Tryd.prog 36 #[.slice ab nb c, .slice ag ng d] w (Drawn w) := by
  unfold maxLen at hcm hdm
  have fin : ∀ n, Drawn w (.returned (.tuple #[])) (w.drewN n) := fun n => ⟨rfl, n, rfl⟩
  have F := Lib.hid fin
  clear fin
  cases ab with
  | none =>
    obtain rfl := ha rfl
    obtain rfl : nb = 0 := by omega
    cases ag with
    | none =>
      obtain rfl := hg rfl
      obtain rfl : ng = 0 := by omega
      clear ha hg hz hc hd
      go_enter Tryd.func36, Tryd.ntmps36
      go_wp2
      go_quiet (fail)
      go_wp2
      all_goals
        go_loopw [24] (fun cnt wr => cnt = .int .i64 0 ∧ ∃ n, wr = w.drewN n) (fun _ _ => 0)
        case atStart => exact ⟨rfl, _, rfl⟩
        case round =>
          obtain ⟨rfl, n, rfl⟩ := hrel
          go_wp2
          go_end0
          exact F.out _
    | some a2 =>
      clear ha hg hz hc
      by_cases h1 : ng = d
      · subst h1
        go_enter Tryd.func36, Tryd.ntmps36
        go_wp2
        go_quiet (fail)
        go_wp2
        all_goals
          go_loopw [24] (fun cnt wr => cnt = .int .i64 0 ∧ ∃ n, wr = w.drewN n) (fun _ _ => 0)
          case atStart => exact ⟨rfl, _, rfl⟩
          case round =>
            obtain ⟨rfl, n, rfl⟩ := hrel
            go_wp2
            go_end0
            exact F.out _
      · have h2 : ng < d := by omega
        go_enter Tryd.func36, Tryd.ntmps36
        go_wp2
        go_quiet (fail)
        go_wp2
        all_goals
          go_loopw [24] (fun cnt wr => cnt = .int .i64 0 ∧ ∃ n, wr = w.drewN n) (fun _ _ => 0)
          case atStart => exact ⟨rfl, _, rfl⟩
          case round =>
            obtain ⟨rfl, n, rfl⟩ := hrel
            go_wp2
            go_end0
            exact F.out _
  | some a =>
    cases ag with
    | none =>
      obtain rfl := hg rfl
      obtain rfl : ng = 0 := by omega
      clear ha hg hz hd
      rcases Nat.eq_zero_or_pos nb with rfl | hp
      · by_cases h1 : c = 0
        · subst h1
          go_enter Tryd.func36, Tryd.ntmps36
          go_wp2
          go_quiet (fail)
          go_wp2
          all_goals
            go_loopw [24] (fun cnt wr => cnt = .int .i64 0 ∧ ∃ n, wr = w.drewN n) (fun _ _ => 0)
            case atStart => exact ⟨rfl, _, rfl⟩
            case round =>
              obtain ⟨rfl, n, rfl⟩ := hrel
              go_wp2
              go_end0
              exact F.out _
        · have h2 : 0 < c := by omega
          go_enter Tryd.func36, Tryd.ntmps36
          go_wp2
          go_quiet (fail)
          go_wp2
          all_goals
            go_loopw [24] (fun cnt wr => cnt = .int .i64 0 ∧ ∃ n, wr = w.drewN n) (fun _ _ => 0)
            case atStart => exact ⟨rfl, _, rfl⟩
            case round =>
              obtain ⟨rfl, n, rfl⟩ := hrel
              go_wp2
              go_end0
              exact F.out _
      · by_cases h1 : nb = c
        · subst h1
          go_enter Tryd.func36, Tryd.ntmps36
          go_wp2
          go_quiet (fail)
          go_wp2
          all_goals
            go_loopw [24] (fun cnt wr => cnt = .int .i64 0 ∧ ∃ n, wr = w.drewN n) (fun _ _ => 0)
            case atStart => exact ⟨rfl, _, rfl⟩
            case round =>
              obtain ⟨rfl, n, rfl⟩ := hrel
              go_wp2
              go_end0
              exact F.out _
        · have h2 : nb < c := by omega
          go_enter Tryd.func36, Tryd.ntmps36
          go_wp2
          go_quiet (fail)
          go_wp2
          all_goals
            go_loopw [24] (fun cnt wr => cnt = .int .i64 0 ∧ ∃ n, wr = w.drewN n) (fun _ _ => 0)
            case atStart => exact ⟨rfl, _, rfl⟩
            case round =>
              obtain ⟨rfl, n, rfl⟩ := hrel
              go_wp2
              go_end0
              exact F.out _
    | some a2 =>
      clear ha hg
      rcases hz with rfl | rfl
      · by_cases h1 : ng = d
        · subst h1
          go_enter Tryd.func36, Tryd.ntmps36
          go_wp2
          go_quiet (fail)
          go_wp2
          all_goals
            go_loopw [24] (fun cnt wr => cnt = .int .i64 0 ∧ ∃ n, wr = w.drewN n) (fun _ _ => 0)
            case atStart => exact ⟨rfl, _, rfl⟩
            case round =>
              obtain ⟨rfl, n, rfl⟩ := hrel
              go_wp2
              go_end0
              exact F.out _
        · have h2 : ng < d := by omega
          go_enter Tryd.func36, Tryd.ntmps36
          go_wp2
          go_quiet (fail)
          go_wp2
          all_goals
            go_loopw [24] (fun cnt wr => cnt = .int .i64 0 ∧ ∃ n, wr = w.drewN n) (fun _ _ => 0)
            case atStart => exact ⟨rfl, _, rfl⟩
            case round =>
              obtain ⟨rfl, n, rfl⟩ := hrel
              go_wp2
              go_end0
              exact F.out _
      · skip
        rcases Nat.eq_zero_or_pos nb with rfl | hp
        · by_cases h1 : c = 0
          · subst h1
            go_enter Tryd.func36, Tryd.ntmps36
            go_wp2
            go_quiet (fail)
            go_wp2
            all_goals
              go_loopw [24] (fun cnt wr => cnt = .int .i64 0 ∧ ∃ n, wr = w.drewN n) (fun _ _ => 0)
              case atStart => exact ⟨rfl, _, rfl⟩
              case round =>
                obtain ⟨rfl, n, rfl⟩ := hrel
                go_wp2
                go_end0
                exact F.out _
          · have h2 : 0 < c := by omega
            go_enter Tryd.func36, Tryd.ntmps36
            go_wp2
            go_quiet (fail)
            go_wp2
            all_goals
              go_loopw [24] (fun cnt wr => cnt = .int .i64 0 ∧ ∃ n, wr = w.drewN n) (fun _ _ => 0)
              case atStart => exact ⟨rfl, _, rfl⟩
              case round =>
                obtain ⟨rfl, n, rfl⟩ := hrel
                go_wp2
                go_end0
                exact F.out _
        · by_cases h1 : nb = c
          · subst h1
            go_enter Tryd.func36, Tryd.ntmps36
            go_wp2
            go_quiet (fail)
            go_wp2
            all_goals
              go_loopw [24] (fun cnt wr => cnt = .int .i64 0 ∧ ∃ n, wr = w.drewN n) (fun _ _ => 0)
              case atStart => exact ⟨rfl, _, rfl⟩
              case round =>
                obtain ⟨rfl, n, rfl⟩ := hrel
                go_wp2
                go_end0
                exact F.out _
          · have h2 : nb < c := by omega
            go_enter Tryd.func36, Tryd.ntmps36
            go_wp2
            go_quiet (fail)
            go_wp2
            all_goals
              go_loopw [24] (fun cnt wr => cnt = .int .i64 0 ∧ ∃ n, wr = w.drewN n) (fun _ _ => 0)
              case atStart => exact ⟨rfl, _, rfl⟩
              case round =>
                obtain ⟨rfl, n, rfl⟩ := hrel
                go_wp2
                go_end0
                exact F.out _
end Go.Proofs.YthddjfaeacmlhaaDoor.Re
