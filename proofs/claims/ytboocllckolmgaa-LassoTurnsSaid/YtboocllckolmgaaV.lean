/- The document's Within, Area, Times. -/
import Derived.Test.YtboocllckolmgaaS
namespace Go.Proofs.Ytboocllckolmgaa
open Go.RowKit
set_option linter.unusedVariables false

/-- The sides as the document has them: each point with the next one, the last with the first. -/
def nextL : List Pt → List (Pt × Pt)
  | [] => []
  | p :: ps => chainL p (ps ++ [p])
theorem nextL_length (ps : List Pt) : (nextL ps).length = ps.length := by
  cases ps with
  | nil => rfl
  | cons p ps => rw [nextL, chainL_length, List.length_append]; rfl
theorem nextL_at {ps : List Pt} {i k : Nat} {p q : Pt} (hp : ps[i]? = some p) (hq : ps[k]? = some q) (hk : (i + 1 < ps.length ∧ k = i + 1) ∨ (i + 1 = ps.length ∧ k = 0)) : (nextL ps)[i]? = some (p, q) := by
  cases ps with
  | nil => simp at hp
  | cons h t =>
    rw [nextL]
    rw [List.length_cons] at hk
    refine chainL_at ?_ ?_
    · rcases hk with ⟨hl, rfl⟩ | ⟨hl, rfl⟩
      · rw [List.getElem?_cons_succ] at hq
        rw [List.getElem?_append_left (by omega)]
        exact hq
      · obtain rfl : i = t.length := by omega
        rw [List.getElem?_append_right (Nat.le_refl _), Nat.sub_self]
        exact hq
    · cases i with
      | zero => exact hp
      | succ i =>
        rw [List.getElem?_cons_succ] at hp ⊢
        have hil := (List.getElem?_eq_some_iff.1 hp).1
        rw [List.getElem?_append_left hil]
        exact hp

/-- How many sides the ray meets, in the document's words. -/
def docHits (ss : List (Pt × Pt)) (q : Pt) : Nat := ss.countP (metR q)
theorem docHits_more {ss : List (Pt × Pt)} {i : Nat} {s : Pt × Pt} {q : Pt} (h : ss[i]? = some s) : docHits (ss.take (i + 1)) q = docHits (ss.take i) q + (if metR q s then 1 else 0) := by
  unfold docHits
  rw [take_more h, List.countP_append, List.countP_singleton]
def docInside (ps : List Pt) (q : Pt) : Bool := decide (docHits (nextL ps) q % 2 = 1)
theorem odd_flip (m : Nat) (b : Bool) : decide ((m + (if b then 1 else 0)) % 2 = 1) = (if b then !decide (m % 2 = 1) else decide (m % 2 = 1)) := by
  cases b
  · simp
  · rcases Nat.mod_two_eq_zero_or_one m with h | h
    · have : (m + 1) % 2 = 1 := by omega
      simp [h, this]
    · have : (m + 1) % 2 = 0 := by omega
      simp [h, this]

set_option maxHeartbeats 3200000 in
theorem docWithin_any (w : World) (a : Option Addr) (n c : Nat) (ps : List Pt) (q : Pt) (h : Pts w a n ps) (hn : n ≤ 256) (hal : ps.all near = true) (hq : near q = true) :
    Calls Try.prog 16 #[.slice a n c, .int .i64 q.X, .int .i64 q.Y] w (Says (docInside ps q) w) := by
  have HP := Lib.hid h
  have HA := Lib.hid (And.intro hal hq)
  clear h hal hq
  go_enter Try.func16, Try.ntmps16
  go_wp2_with fail
  go_loopw [7, 8] (fun v cnt wr => ∃ (i : Nat) (b : Bool), i ≤ n ∧ cnt = .int .i64 i ∧ v = .bool b ∧ b = decide (docHits ((nextL ps).take i) q % 2 = 1) ∧ Below w.heap.size w wr) (fun _ cnt _ => n - (intOf cnt).toNat)
  case atStart => exact ⟨0, false, Nat.zero_le _, rfl, rfl, rfl, Below.refl _ _⟩
  case round =>
    obtain ⟨i, b, hi, rfl, rfl, hbb, hb⟩ := hrel
    by_cases hlt : i < n
    · have hpw := HP.out.below hb
      obtain ⟨k, hk, hkn⟩ : ∃ k, ((i + 1 < n ∧ k = i + 1) ∨ (i + 1 = n ∧ k = 0)) ∧ k < n := by
        by_cases hh : i + 1 < n
        · exact ⟨i + 1, .inl ⟨hh, rfl⟩, hh⟩
        · exact ⟨0, .inr ⟨by omega, rfl⟩, by omega⟩
      obtain ⟨bl, off, p, rfl, hp, hfp, c0, c1⟩ := hpw.at hlt
      obtain ⟨bl2, off2, p2, he, hp2, hfp2, d0, d1⟩ := hpw.at hkn
      cases he
      have hs := nextL_at hp hp2 (by rw [HP.out.1]; exact hk)
      have hm := docHits_more (q := q) hs
      have np := List.all_eq_true.1 HA.out.1 p (List.mem_of_getElem? hp)
      have np2 := List.all_eq_true.1 HA.out.1 p2 (List.mem_of_getElem? hp2)
      have hfl := odd_flip (docHits ((nextL ps).take i) q) (metR q (p, p2))
      rw [← hm, ← hbb] at hfl
      have CM := Lib.hid (met_any wr.drew p p2 q np np2 HA.out.2)
      have HF := Lib.hid hfl
      have HB := Lib.hid hb
      generalize metR q (p, p2) = m at *
      clear hs hm np np2 hfl hbb hfp hfp2 hp hp2 hpw hb
      rcases hk with ⟨hk1, hk2⟩ | ⟨hk1, rfl⟩
      · have i1 : IntKind.i64.wrap ((i : Int) + 1) = (k : Int) := by rw [wrap_i64 _ (by omega) (by omega)]; omega
        have u : ((k : Int) == (n : Int)) = false := by simp; omega
        have u2 : decide ((k : Int) = (n : Int)) = false := by simp; omega
        have u3 : (k : Int) < (n : Int) := by omega
        have u4 : (0 : Int) ≤ (k : Int) := by omega
        have HK2 := Lib.hid hk2
        clear hk1 hk2
        go_wp2
        go_still_tail 10, (by kernel_rfl)
        change wpList _ _ _ _ _ (World.drew _)
        go_wp2_with fail
        refine CM.out.mono ?_
        rintro e w1 ⟨rfl, hb1⟩
        clear i1
        have HB1 := Lib.hid (show Below w.heap.size w w1 from below_more (w1 := wr.drew) ⟨HB.out.os, HB.out.tape, HB.out.output, HB.out.size, HB.out.block⟩ hb1 (Nat.le_refl _))
        clear hb1 CM HB c0 c1 d0 d1
        cases m with
        | true =>
          go_wp2_with fail
          go_roundw
          case rel => exact ⟨i + 1, !b, hlt, by go_num, rfl, HF.out.symm, HB1.out⟩
          case measure => simp [intOf]; omega
        | false =>
          go_wp2_with fail
          go_roundw
          case rel => exact ⟨i + 1, b, hlt, by go_num, rfl, HF.out.symm, HB1.out⟩
          case measure => simp [intOf]; omega
      · have i1 : IntKind.i64.wrap ((i : Int) + 1) = (n : Int) := by rw [wrap_i64 _ (by omega) (by omega)]; omega
        have u3 : (0 : Int) < (n : Int) := by omega
        rw [Nat.zero_mul, Nat.add_zero] at d0 d1
        clear hk1
        go_wp2
        go_still_tail 10, (by kernel_rfl)
        change wpList _ _ _ _ _ (World.drew _)
        go_wp2_with fail
        refine CM.out.mono ?_
        rintro e w1 ⟨rfl, hb1⟩
        clear i1
        have HB1 := Lib.hid (show Below w.heap.size w w1 from below_more (w1 := wr.drew) ⟨HB.out.os, HB.out.tape, HB.out.output, HB.out.size, HB.out.block⟩ hb1 (Nat.le_refl _))
        clear hb1 CM HB c0 c1 d0 d1
        cases m with
        | true =>
          go_wp2_with fail
          go_roundw
          case rel => exact ⟨i + 1, !b, hlt, by go_num, rfl, HF.out.symm, HB1.out⟩
          case measure => simp [intOf]; omega
        | false =>
          go_wp2_with fail
          go_roundw
          case rel => exact ⟨i + 1, b, hlt, by go_num, rfl, HF.out.symm, HB1.out⟩
          case measure => simp [intOf]; omega
    · obtain rfl : i = n := by omega
      rw [List.take_of_length_le (by rw [nextL_length, HP.out.1]; exact Nat.le_refl _)] at hbb
      have X := Lib.hid hb
      have E := Lib.hid (show docInside ps q = b from hbb.symm)
      clear hb hbb
      go_wp2_with fail
      go_ret
      rw [E.out]
      exact ⟨rfl, X.out⟩
end Go.Proofs.Ytboocllckolmgaa
