/- The contract of the document's Codes. -/
import Derived.Test.YtoiknbbimgeihaaB
namespace Go.Proofs.Ytoiknbbimgeihaa
open Go.RowKit
set_option linter.unusedVariables false

theorem nats_length (zs : List Int) : (nats zs).length = zs.length := by simp [nats]
theorem nats_get {zs : List Int} {i : Nat} {z : Int} (h : zs[i]? = some z) : (nats zs).getD i 0 = z.toNat := by
  unfold nats
  rw [List.getD_eq_getElem?_getD, List.getElem?_map, h]
  rfl
theorem weightS_rooms (l : List Nat) (h : ∀ s, l.getD s 0 ≤ 16) : weightS l = Huff.rooms l (Huff.ordered l 16) := by
  rw [← Huff.weight_eq l h]
  unfold weightS Huff.weight
  congr 1
  apply List.ext_getElem
  · simp
  · intro i h1 h2
    simp only [List.length_map] at h1
    simp only [List.getElem_map, List.getElem_range]
    rw [List.getD_eq_getElem?_getD, List.getElem?_eq_getElem h1]
    simp only [Option.getD_some, wt, Huff.room]
    rw [List.getD_eq_getElem?_getD, List.getElem?_eq_getElem h1]
    rfl
theorem lens_le {zs : List Int} (h : lensOk zs = true) (s : Nat) : (nats zs).getD s 0 ≤ 16 := by
  unfold lensOk at h
  simp only [decide_eq_true_eq] at h
  rw [List.getD_eq_getElem?_getD]
  cases hz : (nats zs)[s]? with
  | none => simp
  | some v =>
    unfold nats at hz
    rw [List.getElem?_map] at hz
    obtain ⟨z, hz1, hz2⟩ := Option.map_eq_some_iff.1 hz
    have := h.2 z (List.mem_of_getElem? hz1)
    simp only [Option.getD_some]
    omega

/-- Codes that are told: memory of the call's own. -/
def CodesTold (w : World) (n : Nat) (l : List Nat) (e : Ending) (w' : World) : Prop :=
  ∃ g, e = .returned (.tuple #[.slice (some ⟨g, 0, none⟩) n n, .bool true]) ∧ w.heap.size ≤ g ∧ Row w' g n (fun j => ((codesOf l).getD j 0 : Nat)) ∧ Below w.heap.size w w'
/-- Lengths that have codes. -/
def mayCode (zs : List Int) : Bool := lensOk zs && decide (weightZ zs ≤ 65536)

theorem docCodes_no (w : World) (a : Option Addr) (n c : Nat) (zs : List Int) (h : Ints w a n zs) (hn : n ≤ 16777216) (hno : mayCode zs = false) :
    Calls Try.prog 17 #[.slice a n c] w fun e w' => e = .returned (.tuple #[.slice none 0 0, .bool false]) ∧ w' = w := by
  have C := docWeight_any w a n c zs h hn
  go_enter Try.func17, Try.ntmps17
  cases hl : lensOk zs
  · rw [hl] at C
    have C := Lib.hid C
    go_wp2_with fail
    refine C.out.mono ?_
    rintro e w1 ⟨rfl, rfl⟩
    go_wp2_with fail
    go_ret2
    exact ⟨rfl, rfl⟩
  · rw [hl] at C
    have hw : 65536 < weightZ zs := by
      unfold mayCode at hno
      rw [hl, Bool.true_and] at hno
      simp only [decide_eq_false_iff_not] at hno
      omega
    generalize weightZ zs = x at *
    have u : decide ((65536 : Int) < (x : Int)) = true := by simp; omega
    have C := Lib.hid C
    go_wp2_with fail
    refine C.out.mono ?_
    rintro e w1 ⟨rfl, rfl⟩
    go_wp2_with fail
    go_ret2
    exact ⟨rfl, rfl⟩

set_option maxRecDepth 100000 in
set_option maxHeartbeats 600000 in
theorem docCodes_yes (w : World) (a : Option Addr) (n c : Nat) (zs : List Int) (h : Ints w a n zs) (hn : n ≤ 16777216) (hyes : mayCode zs = true) :
    Calls Try.prog 17 #[.slice a n c] w (CodesTold w n (nats zs)) := by
  unfold mayCode at hyes
  simp only [Bool.and_eq_true, decide_eq_true_eq] at hyes
  obtain ⟨hl, hw⟩ := hyes
  have C := docWeight_any w a n c zs h hn
  rw [hl] at C
  have hwr : Huff.rooms (nats zs) (Huff.ordered (nats zs) 16) ≤ 65536 := by
    rw [← weightS_rooms _ (lens_le hl)]
    unfold weightZ at hw
    rw [hl] at hw
    exact hw
  have HZ := Lib.hid h
  have HWR := Lib.hid hwr
  have HLE := Lib.hid (lens_le hl)
  have hlen : (nats zs).length = n := by rw [nats_length, h.1]
  have hget : ∀ i z, zs[i]? = some z → (nats zs).getD i 0 = z.toNat := fun i z hz => nats_get hz
  have hzr : ∀ z ∈ zs, 0 ≤ z ∧ z ≤ 16 := by
    unfold lensOk at hl
    simp only [decide_eq_true_eq] at hl
    exact hl.2
  generalize nats zs = l at *
  have HLEN := Lib.hid hlen
  have HGET := Lib.hid hget
  have HZR := Lib.hid hzr
  generalize weightZ zs = x at *
  have u : decide ((65536 : Int) < (x : Int)) = false := by simp; omega
  have hmk := run_make_row' (P := Try.prog) 22 3 (.int .i64 0) 8 Try.underlying22 info3 rfl .i64 .i64 n (by omega) (by omega)
  have C := Lib.hid C
  clear h hl hw hwr hlen hget hzr
  go_enter Try.func17, Try.ntmps17
  go_wp2_with fail
  refine C.out.mono ?_
  rintro e w1 ⟨rfl, rfl⟩
  go_wp2_with fail
  go_loopw [7, 8, 9] (fun code last cnt wr => ∃ k lst cd : Nat, k ≤ 16 ∧ cnt = .int .i64 ((k + 1 : Nat) : Int) ∧ last = .int .i64 lst ∧ code = .int .i64 cd ∧ Last l (sofar l k 0) k lst cd ∧ Row wr w1.heap.size n (fun j => (outOf l (sofar l k 0) j : Nat)) ∧ Below w1.heap.size w1 wr) (fun _ _ cnt _ => 17 - (intOf cnt).toNat)
  case atStart => exact ⟨0, 0, 0, Nat.zero_le _, rfl, rfl, rfl, Or.inl ⟨rfl, rfl, rfl⟩, made_row w1 n, (Below.refl _ _).alloc (Nat.le_refl _) _⟩
  case round =>
    obtain ⟨k, lst, cd, hk, rfl, rfl, rfl, hlast, hrow, hbel⟩ := hrel
    by_cases hk16 : k < 16
    · have HL := Lib.hid hlast
      have HR := Lib.hid hrow
      have HB := Lib.hid hbel
      clear hlast hrow hbel
      obtain ⟨m, hm⟩ : ∃ m, m = k + 1 := ⟨_, rfl⟩
      rw [← hm]
      have HM := Lib.hid hm
      have hm16 : m ≤ 16 := by omega
      have v : decide ((m : Int) ≤ 16) = true := by simp; omega
      clear hm
      go_wp2_with fail
      go_loopw [7, 8, 10] (fun code last cnt wl => ∃ s lst cd : Nat, s ≤ n ∧ cnt = .int .i64 s ∧ last = .int .i64 lst ∧ code = .int .i64 cd ∧ Last l (sofar l k s) m lst cd ∧ Row wl w1.heap.size n (fun j => (outOf l (sofar l k s) j : Nat)) ∧ Below w1.heap.size w1 wl) (fun _ _ cnt _ => n - (intOf cnt).toNat)
      case atStart => exact ⟨0, lst, cd, Nat.zero_le _, rfl, rfl, rfl, HL.out.later (by have := HM.out; omega), HR.out, HB.out⟩
      case round =>
        clear HL HR HB
        obtain ⟨s, lst, cd, hs, rfl, rfl, rfl, hlast, hrow, hbel⟩ := hrel
        by_cases hsn : s < n
        · obtain ⟨b, off, z, rfl, hz, hzb, hcell0⟩ := (HZ.out.later hbel.block).at hsn
          have hzz := HZR.out z (List.mem_of_getElem? hz)
          obtain ⟨y, rfl⟩ := Int.eq_ofNat_of_zero_le hzz.1
          have hy : l.getD s 0 = y := by have := HGET.out s _ hz; simpa using this
          have hcell : wr.cell? ⟨b, off + s, none⟩ = some (.int .i64 (y : Int)) := hcell0
          by_cases hym : y = m
          · have hsof := sofar_more l k s (by rw [hy, hym, HM.out])
            have hnot := sofar_not l k s (by rw [hy, hym, HM.out])
            obtain ⟨q1, q2, q3⟩ := last_next hlast hm16 (by rw [hy, hym]) (by have := HM.out; omega)
            have hrle := sofar_rooms l k s (by rw [HLEN.out]; exact hs) hk16 HWR.out
            have hcd := hlast.code_le hrle
            have hll := hlast.le
            obtain ⟨old, hold, hfr⟩ : ∃ old : Int, wr.cell? ⟨w1.heap.size, s, none⟩ = some (.int .i64 old) ∧ wr.frozen? ⟨w1.heap.size, s, none⟩ = false := ⟨_, hrow.cell hsn⟩
            have X := Lib.hid (show Last l (sofar l k (s + 1)) m m (nextCode m lst cd) ∧ (∀ z : Int, z = (nextCode m lst cd : Nat) → Row (wr.setCell ⟨w1.heap.size, s, none⟩ (.int .i64 z)) w1.heap.size n (fun j => (outOf l (sofar l k (s + 1)) j : Nat))) ∧ (∀ z : Value, Below w1.heap.size w1 (wr.setCell ⟨w1.heap.size, s, none⟩ z)) from by
              rw [hsof]
              refine ⟨q2, fun z hz => ?_, fun z => below_set hbel (Nat.le_refl _) z⟩
              refine hrow.set hsn (fun j hj => ?_)
              rw [outOf_snoc l _ s j hnot, q1, hz]
              split <;> rfl)
            have hcd0 : lst = 0 → cd = 0 := fun e => by
              rcases hlast with ⟨_, _, h⟩ | ⟨h, _⟩
              · exact h
              · omega
            have hncl : nextCode m lst cd ≤ 65536 := q2.code_le (by rw [← hsof]; exact sofar_rooms l k (s + 1) (by rw [HLEN.out]; omega) hk16 HWR.out)
            have hncv : lst ≠ 0 → nextCode m lst cd = (cd + 1) * 2 ^ (m - lst) := fun h => by rw [nextCode, if_neg h]
            have hnc0 : lst = 0 → nextCode m lst cd = 0 := fun h => by rw [nextCode, if_pos h]
            subst hym
            have u1 : ((y : Int) != (y : Int)) = false := by simp
            clear hlast hrow hbel q1 q2 q3 hsof hnot hz hzb hcell0 hzz hy hrle
            generalize nextCode y lst cd = nc at *
            by_cases hl0 : lst = 0
            · obtain rfl := hcd0 hl0
              obtain rfl := hnc0 hl0
              subst hl0
              clear hcd0 hnc0 hncv hncl
              go_wp2_with fail
              go_roundw
              case rel => exact ⟨s + 1, y, 0, by omega, by go_num, rfl, rfl, X.out.1, X.out.2.1 _ rfl, X.out.2.2 _⟩
              case measure => simp [intOf]; omega
            · obtain ⟨d, hd⟩ : ∃ d, d = y - lst := ⟨_, rfl⟩
              have u2 : decide ((0 : Int) < (lst : Int)) = true := by simp; omega
              have hdi : (y : Int) - (lst : Int) = (d : Int) := by omega
              have hv := hncv hl0
              rw [← hd] at hv
              have hvi : ((cd : Int) + 1) * 2 ^ d = (nc : Int) := by rw [hv]; simp
              have hdl : d ≤ 16 := by omega
              obtain ⟨c1, hc1⟩ : ∃ c1 : Nat, (cd : Int) + 1 = (c1 : Int) := ⟨cd + 1, by omega⟩
              rw [hc1] at hvi
              have hvm : (c1 : Int) * 2 ^ min d 64 = (nc : Int) := by rw [Nat.min_eq_left (by omega)]; exact hvi
              have hd0 : (0 : Int) ≤ (d : Int) := by omega
              have hd64 : (d : Int) ≤ 64 := by omega
              have hw2 : IntKind.i64.wrap ((c1 : Int) * 2 ^ d) = (nc : Int) := by rw [hvi, wrap_i64 _ (by omega) (by omega)]
              have hw3 : wrap64 ((c1 : Int) * 2 ^ d) = (nc : Int) := by rw [hvi, IntWalk.wrap64_in _ (by omega)]
              have hl1 : 0 < lst := by omega
              clear hcd0 hnc0 hncv hd hv hl0 u2 hvm hvi
              go_wp2
              go_roundw
              case rel => exact ⟨s + 1, y, nc, by omega, by go_num, rfl, rfl, X.out.1, X.out.2.1 _ rfl, X.out.2.2 _⟩
              case measure => simp [intOf]; omega
          · have hsof := sofar_skip l k s (by rw [hy, ← HM.out]; exact hym)
            have u1 : ((y : Int) != (m : Int)) = true := by simp; omega
            have X := Lib.hid (And.intro hlast (And.intro hrow hbel))
            rw [← hsof] at X
            clear hlast hrow hbel hsof hz hzb hcell0 hzz hy
            go_wp2_with fail
            go_roundw
            case rel => exact ⟨s + 1, lst, cd, by omega, by go_num, rfl, rfl, X.out.1, X.out.2.1, X.out.2.2⟩
            case measure => simp [intOf]; omega
        · obtain rfl : s = n := by omega
          have e := sofar_end l k
          rw [HLEN.out] at e
          rw [e, ← HM.out] at hlast hrow
          have X := Lib.hid (And.intro hlast (And.intro hrow hbel))
          clear hlast hrow hbel e
          go_wp2_with fail
          go_roundw
          case rel => exact ⟨m, lst, cd, by omega, by go_num, rfl, rfl, X.out.1, X.out.2.1, X.out.2.2⟩
          case measure => have := HM.out; simp [intOf]; omega
    · have hk2 : k = 16 := by omega
      have X : CodesTold w1 n l (.returned (.tuple #[.slice (some ⟨w1.heap.size, 0, none⟩) n n, .bool true])) wr := by
        refine ⟨_, rfl, Nat.le_refl _, hrow.congr (fun j hj => ?_), hbel⟩
        rw [hk2, sofar_zero, codesOf_get _ _ (by rw [HLEN.out]; exact hj)]
      have X := Lib.hid X
      obtain ⟨m, hm⟩ : ∃ m : Nat, m = k + 1 := ⟨_, rfl⟩
      rw [← hm]
      have v : decide ((m : Int) ≤ 16) = false := by simp; omega
      clear hlast hrow hbel hm hk2 hk16 hk
      go_wp2_with fail
      go_ret2
      exact X.out
end Go.Proofs.Ytoiknbbimgeihaa
