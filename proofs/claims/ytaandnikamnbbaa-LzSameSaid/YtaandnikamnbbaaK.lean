/- The walks of sortedPlaces and backs. -/
import Derived.Test.YtaandnikamnbbaaJ
namespace Go.Proofs.Ytaandnikamnbbaa
open Go.RowKit
set_option linter.unusedVariables false

theorem places_of_row {w : World} {g m : Nat} (h : RowK 21 .i32 w g m (fun j => j)) (hm : m ≤ 16777216) : Places w (some ⟨g, 0, none⟩) m (List.range m) :=
  h.places (by simp) (fun p hp => by rw [List.mem_range] at hp; omega) (fun j hj => by rw [List.getElem?_range hj])
theorem Arg.dropAt {w : World} {a : Option Addr} {n c : Nat} {ys : List Nat} (h : Arg w a n c ys) (k : Nat) (hk : k ≤ n) : Bytes w (if c = k then a else a.map (fun x => x.add k)) (n - k) (ys.drop k) := (h.drop hk).1

set_option maxRecDepth 100000 in
set_option maxHeartbeats 1600000 in
theorem sortedPlaces_any (w : World) (a : Option Addr) (n c : Nat) (ys : List Nat) (h : Arg w a n c ys) (hn : n ≤ 16777216) :
    Calls Try.prog 17 #[.slice a n c] w (Sorted w (Lz.stage ys 3) (n - 2)) := by
  have hyl : ys.length = n := h.1.1
  have hy256 := h.1.2.1
  obtain ⟨m, hm⟩ : ∃ m, m = n - 2 := ⟨_, rfl⟩
  rw [← hm]
  have hmk := run_make_row' (P := Try.prog) 37 21 (.int .i32 0) 4 Try.underlying37 info21 rfl .i64 .i64 m (by omega) (by omega)
  have hmw := hmk w
  have HM := Lib.hid ((made_row w m).congr (f' := fun j => if j < 0 then j else 0) (fun j hj => by simp))
  have HB := Lib.hid (show Below w.heap.size w (w.alloc (.cells (madeCells #[.int .i32 0] m) 21)) from (Below.refl _ _).alloc (Nat.le_refl _) _)
  have HA := Lib.hid h
  have HY := Lib.hid hy256
  have HYL := Lib.hid (And.intro hyl hm)
  have hcap : n ≤ c := h.2.1
  have hmx : (if (n : Int) - 3 + 1 < 0 then (0 : Int) else (n : Int) - 3 + 1) = (m : Int) := by
    split <;> omega
  have hm16 : m ≤ 16777216 := by omega
  clear h hyl hy256 hmk hm
  go_enter Try.func17, Try.ntmps17
  go_wp2_with fail
  clear hmx hmw
  generalize w.alloc (.cells (madeCells #[.int .i32 0] m) 21) = w1 at *
  go_loopw [14] (fun cnt wr => ∃ i : Nat, i ≤ m ∧ cnt = .int .i64 i ∧ RowK 21 .i32 wr w.heap.size m (fun j => if j < i then j else 0) ∧ Below w.heap.size w wr) (fun cnt _ => m - (intOf cnt).toNat)
  case atStart => exact ⟨0, Nat.zero_le _, rfl, HM.out, HB.out⟩
  case round =>
    clear HM HB
    obtain ⟨i, hi, rfl, hr, hb⟩ := hrel
    by_cases hlt : i < m
    · obtain ⟨hc, hf⟩ := hr.cell hlt
      obtain ⟨old, hold⟩ : ∃ old : Nat, old = (if i < i then i else 0) := ⟨_, rfl⟩
      rw [← hold] at hc
      have hw32 : IntKind.i32.wrap (i : Int) = (i : Int) := wrap_i32 _ (by omega) (by omega)
      have X := Lib.hid (show RowK 21 .i32 (wr.setCell ⟨w.heap.size, i, none⟩ (.int .i32 (i : Nat))) w.heap.size m (fun j => if j < i + 1 then j else 0) ∧ Below w.heap.size w (wr.setCell ⟨w.heap.size, i, none⟩ (.int .i32 (i : Nat))) from by
        refine ⟨hr.set (fun j hj => ?_), below_set hb (Nat.le_refl _) _⟩
        by_cases hji : j = i
        · subst hji
          rw [if_pos (by omega), if_pos rfl]
        · rw [if_neg hji]
          by_cases hj2 : j < i
          · rw [if_pos hj2, if_pos (by omega)]
          · rw [if_neg hj2, if_neg (by omega)])
      clear hr hb hold
      go_wp2_with fail
      go_roundw
      case rel => exact ⟨i + 1, hlt, by go_num, X.out.1, X.out.2⟩
      case measure => simp [intOf]; omega
    · obtain rfl : i = m := by omega
      have HP := Lib.hid (places_of_row (hr.congr (f' := fun j => j) (fun j hj => by rw [if_pos hj])) hm16)
      have HB := Lib.hid hb
      clear hr hb
      go_wp2_with fail
      go_loopw [3, 5] (fun v kv wl => ∃ (t g : Nat), t ≤ 3 ∧ kv = .int .i64 (2 - (t : Int)) ∧ v = .slice (some ⟨g, 0, none⟩) i i ∧ w.heap.size ≤ g ∧ Places wl (some ⟨g, 0, none⟩) i (Lz.stage ys t) ∧ Below w.heap.size w wl) (fun _ kv _ => (intOf kv + 1).toNat)
      case atStart => exact ⟨0, w.heap.size, by omega, rfl, rfl, Nat.le_refl _, by rw [show Lz.stage ys 0 = List.range (ys.length - 2) from rfl, HYL.out.1, ← HYL.out.2]; exact HP.out, HB.out⟩
      case round =>
        clear HP HB
        obtain ⟨t, g, ht, rfl, rfl, hg, hp, hb⟩ := hrel
        by_cases hlt : t < 3
        · obtain ⟨k, hk⟩ : ∃ k : Nat, k = 2 - t := ⟨_, rfl⟩
          have hkt : (2 : Int) - (t : Int) = (k : Int) := by omega
          obtain ⟨kk, hkk⟩ : ∃ kk, kk = min k n := ⟨_, rfl⟩
          have hkn : kk ≤ n := by omega
          have hmn := HYL.out.2
          have hst : Lz.stage ys (t + 1) = Lz.byKey (fun p => (ys.drop kk).getD p 0) (Lz.stage ys t) := by
            rw [hkk, hk, ← HYL.out.1]; rfl
          have hdr := (HA.out.below hb).dropAt kk hkn
          obtain ⟨a', ha'⟩ : ∃ a', a' = (if c = kk then a else a.map (fun x => x.add kk)) := ⟨_, rfl⟩
          rw [← ha'] at hdr
          have CB := byByte_any wr (some ⟨g, 0, none⟩) i i (Lz.stage ys t) a' (n - kk) (c - kk) (ys.drop kk) hp hdr (fun p hp => by have := (Lz.mem_stage HY.out t p).1 hp; rw [HYL.out.1] at this; omega) (by omega) (by omega)
          rw [← hst] at CB
          have HB := Lib.hid hb
          have hk2 : k ≤ 2 := by omega
          have HKT := Lib.hid hkt
          rw [hkt]
          clear hp hb hst hdr hk hkt hmn
          by_cases hck : c = kk
          · rw [if_pos hck] at ha'
            subst ha'
            obtain rfl : kk = n := by omega
            obtain rfl : c = kk := hck
            rw [Nat.sub_self] at CB
            by_cases hnk : c < k
            · clear hkk hkn
              have CB := Lib.hid CB
              go_wp2_with fail
              refine CB.out.mono ?_
              rintro e w2 ⟨g2, rfl, hp2, hg2, hb2⟩
              have X := Lib.hid (And.intro hp2 (And.intro (show w.heap.size ≤ g2 by have := HB.out.size; omega) (below_more HB.out hb2 (Nat.le_refl _))))
              clear hp2 hg2 hb2
              go_wp2_with fail
              go_roundw
              case rel => exact ⟨t + 1, g2, hlt, by rw [show (k : Int) - 1 = 2 - ((t + 1 : Nat) : Int) by have := HKT.out; omega], rfl, X.out.2.1, X.out.1, X.out.2.2⟩
              case measure => have := HKT.out; simp [intOf] <;> omega
            · obtain rfl : k = c := by omega
              clear hkk hkn
              have CB := Lib.hid CB
              go_wp2_with fail
              refine CB.out.mono ?_
              rintro e w2 ⟨g2, rfl, hp2, hg2, hb2⟩
              have X := Lib.hid (And.intro hp2 (And.intro (show w.heap.size ≤ g2 by have := HB.out.size; omega) (below_more HB.out hb2 (Nat.le_refl _))))
              clear hp2 hg2 hb2
              go_wp2_with fail
              go_roundw
              case rel => exact ⟨t + 1, g2, hlt, by rw [show (k : Int) - 1 = 2 - ((t + 1 : Nat) : Int) by have := HKT.out; omega], rfl, X.out.2.1, X.out.1, X.out.2.2⟩
              case measure => have := HKT.out; simp [intOf] <;> omega
          · rw [if_neg hck] at ha'
            subst ha'
            by_cases hnk : n < k
            · obtain rfl : kk = n := by omega
              rw [Nat.sub_self] at CB
              clear hkk hkn
              have CB := Lib.hid CB
              go_wp2_with fail
              refine CB.out.mono ?_
              rintro e w2 ⟨g2, rfl, hp2, hg2, hb2⟩
              have X := Lib.hid (And.intro hp2 (And.intro (show w.heap.size ≤ g2 by have := HB.out.size; omega) (below_more HB.out hb2 (Nat.le_refl _))))
              clear hp2 hg2 hb2
              go_wp2_with fail
              go_roundw
              case rel => exact ⟨t + 1, g2, hlt, by rw [show (k : Int) - 1 = 2 - ((t + 1 : Nat) : Int) by have := HKT.out; omega], rfl, X.out.2.1, X.out.1, X.out.2.2⟩
              case measure => have := HKT.out; simp [intOf] <;> omega
            · obtain rfl : kk = k := by omega
              clear hkk
              have CB := Lib.hid CB
              go_wp2_with fail
              refine CB.out.mono ?_
              rintro e w2 ⟨g2, rfl, hp2, hg2, hb2⟩
              have X := Lib.hid (And.intro hp2 (And.intro (show w.heap.size ≤ g2 by have := HB.out.size; omega) (below_more HB.out hb2 (Nat.le_refl _))))
              clear hp2 hg2 hb2
              go_wp2_with fail
              go_roundw
              case rel => exact ⟨t + 1, g2, hlt, by rw [show (kk : Int) - 1 = 2 - ((t + 1 : Nat) : Int) by have := HKT.out; omega], rfl, X.out.2.1, X.out.1, X.out.2.2⟩
              case measure => have := HKT.out; simp [intOf] <;> omega
        · obtain rfl : t = 3 := by omega
          have X := Lib.hid (show Sorted w (Lz.stage ys 3) i (.returned (.slice (some ⟨g, 0, none⟩) i i)) wr from ⟨g, rfl, hp, hg, hb⟩)
          have e : (2 : Int) - ((3 : Nat) : Int) = -1 := by omega
          rw [e]
          clear hp hb e
          go_wp2_with fail
          go_ret
          exact X.out
end Go.Proofs.Ytaandnikamnbbaa
