/- Whole numbers in memory; the contract of the document's Weight. -/
import Derived.Test.YtoiknbbimgeihaaProg
import Derived.WalkKit
import Derived.Laws.BitsAllLaws
import Derived.WalkLawsBesides
import Derived.OneCell
import Derived.Lib.Hide
import Derived.BigQuiet
import Derived.Deep.QuietTactic
import Derived.Deep.LoopGhost
import Derived.Deep.OwnRows
namespace Go.Proofs.Ytoiknbbimgeihaa
open Go.RowKit
set_option linter.unusedVariables false

theorem wrap_i64 (n : Int) (h0 : -9223372036854775808 ≤ n) (h1 : n ≤ 9223372036854775807) : IntKind.i64.wrap n = n := by
  simp [IntKind.wrap, IntKind.bits, IntKind.signed]
  omega

/-- Whole numbers that a slice value leads to. -/
def Ints (w : World) (a : Option Addr) (n : Nat) (zs : List Int) : Prop :=
  zs.length = n ∧ (∀ z ∈ zs, -9223372036854775808 ≤ z ∧ z ≤ 9223372036854775807) ∧ (0 < n → ∃ b off, a = some ⟨b, off, none⟩ ∧ ∀ (j : Nat) (z : Int), zs[j]? = some z → w.cell? ⟨b, off + j, none⟩ = some (.int .i64 z))
theorem Ints.later {w w' : World} {a : Option Addr} {n : Nat} {zs : List Int} (h : Ints w a n zs) (hk : ∀ k, k < w.heap.size → w'.heap[k]? = w.heap[k]?) : Ints w' a n zs := by
  obtain ⟨h1, h2, h3⟩ := h
  refine ⟨h1, h2, fun hp => ?_⟩
  obtain ⟨b, off, e, hc⟩ := h3 hp
  exact ⟨b, off, e, fun j y hj => (World.cell?_of_block (w := w) (hk _ (World.block_lt_of_cell? w _ (hc j y hj)))).trans (hc j y hj)⟩
theorem Ints.below {w w' : World} {a : Option Addr} {n : Nat} {zs : List Int} (h : Ints w a n zs) (hb : Below w.heap.size w w') : Ints w' a n zs := h.later hb.block
theorem Ints.at {w : World} {a : Option Addr} {n i : Nat} {zs : List Int} (h : Ints w a n zs) (hi : i < n) : ∃ b off z, a = some ⟨b, off, none⟩ ∧ zs[i]? = some z ∧ (-9223372036854775808 ≤ z ∧ z ≤ 9223372036854775807) ∧ w.cell? ⟨b, off + i, none⟩ = some (.int .i64 z) := by
  obtain ⟨h1, h2, h3⟩ := h
  obtain ⟨b, off, e, hc⟩ := h3 (by omega)
  have hl : i < zs.length := by omega
  exact ⟨b, off, zs[i], e, List.getElem?_eq_getElem hl, h2 _ (List.getElem_mem hl), hc i _ (List.getElem?_eq_getElem hl)⟩
theorem take_more {α : Type} {ys : List α} {i : Nat} {y : α} (h : ys[i]? = some y) : ys.take (i + 1) = ys.take i ++ [y] := by
  rw [List.take_add_one, h]; rfl

/-- What lengths weigh. -/
def wt (z : Nat) : Nat := if z = 0 then 0 else 2 ^ (16 - z)
def weightS (l : List Nat) : Nat := (l.map wt).sum
theorem weightS_snoc (l : List Nat) (z : Nat) : weightS (l ++ [z]) = weightS l + wt z := by simp [weightS]
theorem wt_le (z : Nat) : wt z ≤ 65536 := by
  unfold wt
  split
  · omega
  · exact Nat.le_trans (Nat.pow_le_pow_right (by omega) (show 16 - z ≤ 16 by omega)) (by decide)
theorem weightS_le (l : List Nat) : weightS l ≤ 65536 * l.length := by
  induction l with
  | nil => simp [weightS]
  | cons z l ih =>
    have := wt_le z
    simp only [weightS, List.map_cons, List.sum_cons, List.length_cons] at ih ⊢
    omega
/-- Lengths that may be. -/
def lensOk (zs : List Int) : Bool := decide (zs.length ≤ 300 ∧ ∀ z ∈ zs, 0 ≤ z ∧ z ≤ 16)
def nats (zs : List Int) : List Nat := zs.map Int.toNat
def weightZ (zs : List Int) : Nat := if lensOk zs = true then weightS (nats zs) else 0
theorem nats_snoc (zs : List Int) (z : Int) : nats (zs ++ [z]) = nats zs ++ [z.toNat] := by simp [nats]

theorem shr_wt (z : Nat) (h1 : 1 ≤ z) (h2 : z ≤ 16) : (65536 : Int) / 2 ^ z = ((wt z : Nat) : Int) := by
  have e : (65536 : Nat) = 2 ^ (16 - z) * 2 ^ z := by rw [← Nat.pow_add, show 16 - z + z = 16 by omega]
  have e2 : 65536 / 2 ^ z = 2 ^ (16 - z) := Nat.div_eq_of_eq_mul_left (Nat.two_pow_pos z) e
  have e3 : (65536 : Int) / 2 ^ z = ((65536 / 2 ^ z : Nat) : Int) := by simp
  rw [e3, e2, wt, if_neg (by omega)]

set_option maxHeartbeats 800000 in
theorem docWeight_any (w : World) (a : Option Addr) (n c : Nat) (zs : List Int) (h : Ints w a n zs) (hn : n ≤ 16777216) :
    Calls Try.prog 12 #[.slice a n c] w fun e w' => e = .returned (.tuple #[.int .i64 (weightZ zs : Nat), .bool (lensOk zs)]) ∧ w' = w := by
  have HZ := Lib.hid h
  clear h
  go_enter Try.func12, Try.ntmps12
  by_cases h3 : 300 < n
  · have hl : lensOk zs = false := by
      unfold lensOk
      simp only [decide_eq_false_iff_not]
      have := HZ.out.1
      omega
    have hw : weightZ zs = 0 := by unfold weightZ; rw [hl]; rfl
    have u : decide ((300 : Int) < (n : Int)) = true := by simp; omega
    rw [hw, hl]
    go_wp2
    go_ret2
    exact ⟨rfl, rfl⟩
  · have u : decide ((300 : Int) < (n : Int)) = false := by simp; omega
    go_wp2
    go_loopw [4, 5] (fun s cnt wr => ∃ i : Nat, i ≤ n ∧ cnt = .int .i64 i ∧ (∀ z ∈ zs.take i, 0 ≤ z ∧ z ≤ 16) ∧ s = .int .i64 (weightS (nats (zs.take i)) : Nat) ∧ wr = w) (fun _ cnt _ => n - (intOf cnt).toNat)
    case atStart => exact ⟨0, Nat.zero_le _, rfl, by intro z hz; simp at hz, rfl, rfl⟩
    case round =>
      obtain ⟨i, hi, rfl, hok, rfl, rfl⟩ := hrel
      by_cases hlt : i < n
      · obtain ⟨b, off, z, rfl, hz, hzb, hcell⟩ := HZ.out.at hlt
        have hmem : z ∈ zs := List.mem_of_getElem? hz
        by_cases hbad : 0 ≤ z ∧ z ≤ 16
        · have HN := Lib.hid (take_more hz)
          have HOK := Lib.hid hok
          have hsl := weightS_le (nats (zs.take i))
          have hll : (nats (zs.take i)).length ≤ 300 := by simp [nats]; omega
          obtain ⟨m, rfl⟩ := Int.eq_ofNat_of_zero_le hbad.1
          have u1 : decide ((m : Int) < 0) = false := by simp
          have u2 : decide ((16 : Int) < (m : Int)) = false := by simp; omega
          have hm16 : m ≤ 16 := by omega
          clear hok hz hbad hmem
          by_cases hm : m = 0
          · subst hm
            generalize hS : weightS (nats (zs.take i)) = s at *
            have HS := Lib.hid hS
            clear hS
            go_wp2_with fail
            go_roundw
            case rel =>
              refine ⟨i + 1, by omega, by go_num, ?_, by rw [HN.out, nats_snoc, weightS_snoc, HS.out]; simp [wt], trivial⟩
              intro z hz
              rw [HN.out, List.mem_append, List.mem_singleton] at hz
              rcases hz with hz | rfl
              · exact HOK.out z hz
              · omega
            case measure => simp [intOf]; omega
          · have u3 : decide ((0 : Int) < (m : Int)) = true := by simp; omega
            have hsh := shr_wt m (by omega) hm16
            have hwl := wt_le m
            generalize hS : weightS (nats (zs.take i)) = s at *
            generalize hW : wt m = x at *
            have HS := Lib.hid (And.intro hS hW)
            clear hS hW
            go_wp2_with fail
            go_roundw
            case rel =>
              refine ⟨i + 1, by omega, by go_num, ?_, by rw [HN.out, nats_snoc, weightS_snoc, HS.out.1, Int.toNat_natCast, HS.out.2]; simp, trivial⟩
              intro z hz
              rw [HN.out, List.mem_append, List.mem_singleton] at hz
              rcases hz with hz | rfl
              · exact HOK.out z hz
              · omega
            case measure => simp [intOf]; omega
        · have hl : lensOk zs = false := by
            unfold lensOk
            simp only [decide_eq_false_iff_not]
            intro hh
            exact hbad (hh.2 z hmem)
          have hw : weightZ zs = 0 := by unfold weightZ; rw [hl]; rfl
          have HL := Lib.hid (And.intro hl hw)
          clear hl hw hz hmem hok
          by_cases hz0 : z < 0
          · have u1 : decide (z < 0) = true := by simpa using hz0
            go_wp2_with fail
            go_ret2
            exact ⟨by rw [HL.out.1, HL.out.2]; rfl, rfl⟩
          · have u1 : decide (z < 0) = false := by simpa using hz0
            have u2 : decide (16 < z) = true := by simp; omega
            go_wp2_with fail
            go_ret2
            exact ⟨by rw [HL.out.1, HL.out.2]; rfl, rfl⟩
      · obtain rfl : i = n := by omega
        have e : zs.take i = zs := List.take_of_length_le (by rw [HZ.out.1]; exact Nat.le_refl _)
        rw [e] at hok ⊢
        have hl : lensOk zs = true := by
          unfold lensOk
          simp only [decide_eq_true_eq]
          exact ⟨by rw [HZ.out.1]; omega, hok⟩
        have hw : weightZ zs = weightS (nats zs) := by unfold weightZ; rw [hl]; rfl
        have HL := Lib.hid (And.intro hl hw)
        clear hl hw hok
        generalize hS : weightS (nats zs) = s at *
        go_wp2
        go_ret2
        exact ⟨by rw [HL.out.1, HL.out.2]; rfl, rfl⟩
end Go.Proofs.Ytoiknbbimgeihaa
