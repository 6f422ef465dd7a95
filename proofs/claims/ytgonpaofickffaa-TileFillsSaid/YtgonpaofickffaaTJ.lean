/- Arenas and planes made; what they tell. -/
import Derived.Test.YtgonpaofickffaaTH
namespace Go.Proofs.Ytgonpaofickffaa
open Go.RowKit Go.Maps
set_option linter.unusedVariables false

/-- A new arena. -/
def St.new (A cap : Nat) : St := { A := A, cap := cap, ps := [], live := [], home := fun _ => (0, 0), pix := fun _ _ => 0 }
theorem new_no (cap : Int) (w : World) (h : cap < 0 ∨ 1048576 < cap) : Calls Try.prog 9 #[.int .i64 cap] w fun e w' => e = .returned (.pointer none) ∧ w' = w := by
  rcases h with h | h
  · have u0 : decide (cap < 0) = true := by simpa using h
    go_enter Try.func9, Try.ntmps9
    go_wp2
    go_ret
    exact ⟨rfl, rfl⟩
  · have u0 : decide (cap < 0) = false := by simp; omega
    have u1 : decide (1048576 < cap) = true := by simpa using h
    go_enter Try.func9, Try.ntmps9
    go_wp2
    go_ret
    exact ⟨rfl, rfl⟩
theorem new_yes (cap : Nat) (w : World) (h : cap ≤ 1048576) : Calls Try.prog 9 #[.int .i64 (cap : Int)] w fun e w' => e = .returned (.pointer (some ⟨w.heap.size, 0, none⟩)) ∧ Rep w' (St.new w.heap.size cap) ∧ Keeps none' w w' ∧ w'.heap.size = w.heap.size + 1 := by
  have u0 : decide ((cap : Int) < 0) = false := by simp
  have u1 : decide (1048576 < (cap : Int)) = false := by simp; omega
  go_enter Try.func9, Try.ntmps9
  go_wp2
  go_ret
  refine ⟨rfl, ?_, (Keeps.refl _ _).alloc _, by simp⟩
  constructor
  · simp only [St.new, St.free, List.length_nil, Nat.sub_zero]
    exact heap_alloc_new _ _
  · exact Nat.zero_le _
  · exact h
  · intro k p hp; simp [St.new] at hp
  · intro k p hp; simp [St.new] at hp
  · intro t ht; simp [St.new] at ht
  · intro t ht; simp [St.new] at ht
  · exact List.nodup_nil
  · intro a b p q hp; simp [St.new] at hp
  · intro t ht; simp [St.new] at ht
  · exact Nat.zero_le _
theorem free_any (w : World) (S : St) (h : Rep w S) : Calls Try.prog 22 #[.pointer (some ⟨S.A, 0, none⟩)] w fun e w' => e = .returned (.int .i64 (S.free : Int)) ∧ w' = w := by
  obtain ⟨h0, -⟩ := h.free
  clear h
  go_enter Try.func22, Try.ntmps22
  go_wp2
  go_ret
  exact ⟨rfl, rfl⟩
theorem size_any (w : World) (S : St) (h : Rep w S) (k : Nat) (p : Pl) (hk : S.ps[k]? = some p) : Calls Try.prog 13 #[.pointer (some ⟨p.pb, 0, none⟩)] w fun e w' => e = .returned (.tuple #[.int .i64 (p.W : Int), .int .i64 (p.H : Int)]) ∧ Keeps none' w w' := by
  obtain ⟨-, c1, c2, -⟩ := h.cells hk
  clear h hk
  go_enter Try.func13, Try.ntmps13
  go_wp2_with fail
  go_quiet (fail)
  go_wp2_with fail
  go_ret2
  exact ⟨rfl, (Keeps.refl none' w).drewN nq⟩
theorem tilesN_any (w : World) (S : St) (h : Rep w S) (k : Nat) (p : Pl) (hk : S.ps[k]? = some p) : Calls Try.prog 23 #[.pointer (some ⟨p.pb, 0, none⟩)] w fun e w' => e = .returned (.int .i64 (p.L.length : Int)) ∧ w' = w := by
  obtain ⟨-, -, -, x3⟩ := h.cells hk
  have ln := (h.plane k p hk).2.1.len
  clear h hk
  go_enter Try.func23, Try.ntmps23
  go_wp2
  go_ret
  exact ⟨rfl, rfl⟩
/-- A plane more. -/
def St.more (S : St) (q : Pl) : St := { S with ps := S.ps ++ [q] }
theorem Rep.addPl {w w' : World} {S : St} (h : Rep w S) {q : Pl} (hP : PlaneAt w' q.pb S.A q.W q.H q.mb) (hT : Tab w' q.mb q.T q.L) (hW : q.W ≤ 32768 ∧ q.H ≤ 32768) (hm : S.ps.length < 1048576) (hmb : w.heap.size ≤ q.mb)
    (hq : ∀ i j t, q.T i j = some t → t ∈ S.live ∧ S.home t = (i, j) ∧ i * 16 < q.W ∧ j * 16 < q.H)
    (hA : w'.heap[S.A]? = w.heap[S.A]?) (hPs : ∀ (k : Nat) p, S.ps[k]? = some p → w'.heap[p.pb]? = w.heap[p.pb]? ∧ w'.heap[p.mb]? = w.heap[p.mb]?)
    (ht : ∀ t ∈ S.live, TileAt w' t (cnt S.ps (S.home t) t + (if q.T (S.home t).1 (S.home t).2 = some t then 1 else 0)) (S.pix t)) : Rep w' (S.more q) := by
  have hget : ∀ (a : Nat) p, (S.more q).ps[a]? = some p → S.ps[a]? = some p ∨ (a = S.ps.length ∧ p = q) := by
    intro a p hp
    simp only [St.more] at hp
    rcases Nat.lt_or_ge a S.ps.length with h1 | h1
    · rw [List.getElem?_append_left h1] at hp
      exact Or.inl hp
    · rw [List.getElem?_append_right h1] at hp
      have : a - S.ps.length = 0 := by
        rcases Nat.eq_zero_or_pos (a - S.ps.length) with e | e
        · exact e
        · rw [List.getElem?_eq_none (by simp; omega)] at hp
          cases hp
      rw [this] at hp
      simp at hp
      exact Or.inr ⟨by omega, hp.symm⟩
  have hc : ∀ hm t, cnt (S.more q).ps hm t = cnt S.ps hm t + (if q.T hm.1 hm.2 = some t then 1 else 0) := by
    intro hm t
    simp only [cnt, St.more, List.countP_append, List.countP_singleton, beq_iff_eq]
  have hmlt : ∀ (k : Nat) p, S.ps[k]? = some p → p.mb < w.heap.size := fun k p hp => (h.plane k p hp).2.1.lt
  constructor
  · exact hA.trans h.arena
  · exact h.room
  · exact h.cap
  · intro k p hp
    rcases hget k p hp with hp | ⟨-, rfl⟩
    · obtain ⟨h1, h2, h3⟩ := h.plane k p hp
      exact ⟨(hPs k p hp).1.trans h1, h2.keep (hPs k p hp).2, h3⟩
    · exact ⟨hP, hT, hW⟩
  · intro k p hp
    rcases hget k p hp with hp | ⟨-, rfl⟩
    · exact h.at_ k p hp
    · exact hq
  · intro t htl
    have := ht t htl
    rw [← hc] at this
    exact this
  · intro t htl
    rw [hc]
    exact Nat.lt_of_lt_of_le (h.used t htl) (Nat.le_add_right _ _)
  · exact h.nd
  · intro a b p r hp hr e
    rcases hget a p hp with hp1 | ⟨e1, e2⟩ <;> rcases hget b r hr with hr1 | ⟨e3, e4⟩
    · exact h.apart a b p r hp1 hr1 e
    · have := hmlt a p hp1; rw [e, e4] at this; omega
    · have := hmlt b r hr1; rw [← e, e2] at this; omega
    · rw [e1, e3]
  · exact h.small
  · simp only [St.more, List.length_append, List.length_singleton]; omega
theorem plane_no (w : World) (A : Nat) (W H : Int) (hb : ¬ (0 ≤ W ∧ W ≤ 32768 ∧ 0 ≤ H ∧ H ≤ 32768)) : Calls Try.prog 10 #[.pointer (some ⟨A, 0, none⟩), .int .i64 W, .int .i64 H] w fun e w' => e = .returned (.tuple #[.pointer none, .int .i64 31]) ∧ w' = w := by
  have C1 := isSide_any W w
  have C2 := isSide_any H w
  by_cases h1 : 0 ≤ W ∧ W ≤ 32768
  · rw [decide_eq_true h1.1, decide_eq_true h1.2] at C1
    rw [show (decide (0 ≤ H) && decide (H ≤ 32768)) = false by simp; omega] at C2
    have D1 := Lib.hid C1
    have D2 := Lib.hid C2
    clear C1 C2 hb h1
    go_enter Try.func10, Try.ntmps10
    go_wp2_with (first | (go_at_call_of 24 (W); refine D1.out.mono ?_; clear D1; rintro e w' ⟨rfl, rfl⟩) | (go_at_call 24; refine D2.out.mono ?_; clear D2; rintro e w' ⟨rfl, rfl⟩))
    go_ret2
    exact ⟨rfl, rfl⟩
  · rw [show (decide (0 ≤ W) && decide (W ≤ 32768)) = false by simp; omega] at C1
    have D1 := Lib.hid C1
    clear C1 C2 hb h1
    go_enter Try.func10, Try.ntmps10
    go_wp2_with (first | (go_at_call 24; refine D1.out.mono ?_; clear D1; rintro e w' ⟨rfl, rfl⟩))
    go_ret2
    exact ⟨rfl, rfl⟩
set_option maxHeartbeats 1600000 in
theorem plane_yes (w : World) (S : St) (h : Rep w S) (W H : Nat) (hW : W ≤ 32768) (hH : H ≤ 32768) (hm : S.ps.length < 1048576) :
    Calls Try.prog 10 #[.pointer (some ⟨S.A, 0, none⟩), .int .i64 (W : Int), .int .i64 (H : Int)] w fun e w' => ∃ q : Pl, e = .returned (.tuple #[.pointer (some ⟨q.pb, 0, none⟩), .int .i64 0]) ∧ Rep w' (S.more q) ∧ Keeps none' w w' ∧
      q.W = W ∧ q.H = H ∧ (∀ i j, q.T i j = none) ∧ q.L = [] ∧ w.heap.size ≤ q.pb ∧ w.heap.size ≤ q.mb := by
  have C1 := isSide_any (W : Int) w
  rw [decide_eq_true (by omega), decide_eq_true (by omega)] at C1
  have C2 := isSide_any (H : Int) w
  rw [decide_eq_true (by omega), decide_eq_true (by omega)] at C2
  have D1 := Lib.hid C1
  have D2 := Lib.hid C2
  have H0 := Lib.hid h
  have hmm := @run_makeMap Try.prog
  clear h C1 C2
  go_enter Try.func10, Try.ntmps10
  go_wp2_with (first | (go_at_call_of 24 (W); refine D1.out.mono ?_; clear D1; rintro e w' ⟨rfl, rfl⟩) | (go_at_call 24; refine D2.out.mono ?_; clear D2; rintro e w' ⟨rfl, rfl⟩))
  go_ret2
  have K0 : Keeps none' w' ((w'.alloc (.map #[] 0)).alloc (.cells #[.pointer (some ⟨S.A, 0, none⟩), .int .i64 (W : Int), .int .i64 (H : Int), .map (some w'.heap.size)] 63)) := ((Keeps.refl _ _).alloc _).alloc _
  refine ⟨⟨w'.heap.size + 1, w'.heap.size, W, H, fun _ _ => none, []⟩, rfl, ?_, K0, rfl, rfl, fun _ _ => rfl, rfl, Nat.le_succ _, Nat.le_refl _⟩
  have HR := H0.out
  refine HR.addPl ?_ ?_ ⟨hW, hH⟩ hm (Nat.le_refl _) (fun i j t e => by cases e) (K0.later _ (HR.lt (Or.inl rfl))) (fun k p hp => ⟨K0.later _ (HR.plane k p hp).1.lt, K0.later _ (HR.plane k p hp).2.1.lt⟩) (fun t ht => ?_)
  · have := heap_alloc_new (w'.alloc (.map #[] 0)) (.cells #[.pointer (some ⟨S.A, 0, none⟩), .int .i64 (W : Int), .int .i64 (H : Int), .map (some w'.heap.size)] 63)
    simpa [PlaneAt] using this
  · exact (Tab.empty w').keep (Below.heap_alloc _ _ _ (by simp))
  · simpa using (HR.tile t ht).later K0
end Go.Proofs.Ytgonpaofickffaa
