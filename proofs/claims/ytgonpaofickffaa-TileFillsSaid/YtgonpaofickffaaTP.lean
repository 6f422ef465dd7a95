/- Which places are reached. -/
import Derived.Test.YtgonpaofickffaaTI
import Derived.Test.YtgonpaofickffaaTN
import Derived.Deep.RegionWith
namespace Go.Proofs.Ytgonpaofickffaa
open Go.RowKit Go.Maps Go.Shelf
set_option linter.unusedVariables false

theorem keys_any (w : World) (m : Nat) : Calls Try.prog 48 #[.map (some m)] w fun e w' => e = .returned (.func (.func 52) #[] #[.pointer (some ⟨w.heap.size, 0, none⟩)]) ∧ w' = w.alloc (.cells #[.map (some m)] 61) := by
  go_enter Try.func48, Try.ntmps48
  go_wp2
  go_ret
  exact ⟨rfl, rfl⟩
theorem places_any (w : World) (a b c d : Int) : Calls Try.prog 49 #[.agg #[.int .i64 a, .int .i64 b, .int .i64 c, .int .i64 d]] w fun e w' => e = .returned (.func (.func 53) #[] #[.pointer (some ⟨w.heap.size, 0, none⟩)]) ∧ w' = w.alloc (.cells #[.int .i64 a, .int .i64 b, .int .i64 c, .int .i64 d] 82) := by
  go_enter Try.func49, Try.ntmps49
  go_wp2
  go_ret
  exact ⟨rfl, rfl⟩
/-- An iterator in memory: over a table, or over an area. -/
def Iter (w w' : World) (m : Nat) (xf xt yf yt v : Nat) (e : Ending) : Prop :=
  ∃ g B, e = .returned (.func (.func g) #[] #[.pointer (some ⟨B, 0, none⟩)]) ∧ w.heap.size ≤ B ∧
    ((g = 52 ∧ v = 0 ∧ w'.heap[B]? = some (.cells #[.map (some m)] 61 (0, 0))) ∨ (g = 53 ∧ w'.heap[B]? = some (.cells #[.int .i64 (xf : Int), .int .i64 (xt : Int), .int .i64 (yf : Int), .int .i64 (yt : Int)] 82 (0, 0))))
set_option maxRecDepth 100000 in
set_option maxHeartbeats 3200000 in
theorem reached_any (w : World) (S : St) (h : Rep w S) (k : Nat) (p : Pl) (hk : S.ps[k]? = some p) (xf xt yf yt v : Nat) (h1 : xf ≤ 32768) (h2 : xt ≤ 32768) (h3 : yf ≤ 32768) (h4 : yt ≤ 32768) :
    Calls Try.prog 42 #[.pointer (some ⟨p.pb, 0, none⟩), .agg #[.int .i64 (xf : Int), .int .i64 (xt : Int), .int .i64 (yf : Int), .int .i64 (yt : Int)], .int .u32 (v : Int)] w fun e w' => Iter w w' p.mb xf xt yf yt v e ∧ Keeps none' w w' := by
  have CT := Lib.hid (areaTiles_any xf xt yf yt h1 h2 h3 h4)
  have LK : ∀ w', Keeps none' w w' → w'.cell? ⟨p.pb, 3, none⟩ = some (.map (some p.mb)) ∧ ∀ ty, (Builtin.len_ #[61] ty #[.map (some p.mb)]).run Try.prog w' = .ok (.int .i64 (p.L.length : Int)) w' := fun w' hk2 =>
    ⟨((h.later hk2).cells hk).2.2.2, fun ty => ((h.later hk2).plane k p hk).2.1.len ty⟩
  have LK := Lib.hid LK
  clear h hk
  go_enter Try.func42, Try.ntmps42
  go_wp2_with fail
  obtain ⟨w1, hw1⟩ : ∃ w1, w1 = w.alloc (.cells #[.int .i64 (xf : Int), .int .i64 (xt : Int), .int .i64 (yf : Int), .int .i64 (yt : Int)] 82) := ⟨_, rfl⟩
  have W0 := Lib.hid (show Keeps none' w w1 by rw [hw1]; exact (Keeps.refl none' w).alloc _)
  have hb : w1.heap[w.heap.size]? = some (.cells #[.int .i64 (xf : Int), .int .i64 (xt : Int), .int .i64 (yf : Int), .int .i64 (yt : Int)] 82 (0, 0)) := by rw [hw1]; exact heap_alloc_new _ _
  have CEL : ∀ w', Keeps none' w1 w' → (w'.cell? ⟨w.heap.size, 0, none⟩ = some (.int .i64 (xf : Int)) ∧ w'.cell? ⟨w.heap.size, 1, none⟩ = some (.int .i64 (xt : Int)) ∧ w'.cell? ⟨w.heap.size, 2, none⟩ = some (.int .i64 (yf : Int)) ∧ w'.cell? ⟨w.heap.size, 3, none⟩ = some (.int .i64 (yt : Int))) ∧ w'.cell? ⟨p.pb, 3, none⟩ = some (.map (some p.mb)) ∧ ∀ ty, (Builtin.len_ #[61] ty #[.map (some p.mb)]).run Try.prog w' = .ok (.int .i64 (p.L.length : Int)) w' := by
    intro w' hk
    have e := (hk.later _ (lt_of_block hb)).trans hb
    refine ⟨by simp [World.cell?, e], LK.out w' (W0.out.trans hk (fun _ _ h => h))⟩
  have CEL := Lib.hid CEL
  rw [← hw1]
  clear hw1 hb
  obtain ⟨B, hB⟩ : ∃ B, B = w.heap.size := ⟨_, rfl⟩
  rw [← hB] at CEL ⊢
  have HB := Lib.hid hB
  clear hB
  obtain ⟨⟨x0, x1, x2, x3⟩, y3, ln⟩ := CEL.out w1 (Keeps.refl _ _)
  have ln2 := (CEL.out w1.drew (Keeps.refl none' w1).drew).2.2
  have FIN1 : ∀ w', Keeps none' w1 w' → Iter w (w'.alloc (.cells #[.map (some p.mb)] 61)) p.mb xf xt yf yt 0 (.returned (.func (.func 52) #[] #[.pointer (some ⟨w'.heap.size, 0, none⟩)])) ∧ Keeps none' w (w'.alloc (.cells #[.map (some p.mb)] 61)) := fun w' hk =>
    ⟨⟨52, w'.heap.size, rfl, Nat.le_trans W0.out.size hk.size, Or.inl ⟨rfl, rfl, heap_alloc_new _ _⟩⟩, (W0.out.trans hk (fun _ _ h => h)).alloc _⟩
  have FIN2 : ∀ w', Keeps none' w1 w' → Iter w (w'.alloc (.cells #[.int .i64 (xf : Int), .int .i64 (xt : Int), .int .i64 (yf : Int), .int .i64 (yt : Int)] 82)) p.mb xf xt yf yt v (.returned (.func (.func 53) #[] #[.pointer (some ⟨w'.heap.size, 0, none⟩)])) ∧ Keeps none' w (w'.alloc (.cells #[.int .i64 (xf : Int), .int .i64 (xt : Int), .int .i64 (yf : Int), .int .i64 (yt : Int)] 82)) := fun w' hk =>
    ⟨⟨53, w'.heap.size, rfl, Nat.le_trans W0.out.size hk.size, Or.inr ⟨rfl, heap_alloc_new _ _⟩⟩, (W0.out.trans hk (fun _ _ h => h)).alloc _⟩
  have FIN1 := Lib.hid FIN1
  have FIN2 := Lib.hid FIN2
  have KA := Lib.hid (fun w => keys_any w p.mb)
  have PA := Lib.hid (fun w => places_any w (xf : Int) (xt : Int) (yf : Int) (yt : Int))
  by_cases hv : v = 0
  · subst hv
    go_region_with (first | (go_at_call 47; refine (CT.out _).mono ?_; rintro e w5 ⟨⟨n, hn, rfl⟩, hx5⟩; have hx6 := Keeps.trans (show Keeps none' w1 _ from by first | exact Keeps.refl _ _ | exact (Keeps.refl none' w1).drew) hx5 (fun _ _ h => h); obtain ⟨⟨x0, x1, x2, x3⟩, y3, ln⟩ := CEL.out w5 hx6))
    all_goals
      have F1 := Lib.hid (FIN1.out w5 hx6)
      have F2 := Lib.hid (FIN2.out w5 hx6)
      clear hx5 hx6 ln ln2 FIN1 FIN2 LK CEL CT
      by_cases hc : p.L.length < n
      · have u0 : decide ((p.L.length : Int) < (n : Int)) = true := by simp; omega
        go_wp2_with (first | (go_at_call 48; refine (KA.out _).mono ?_; rintro e w' ⟨rfl, rfl⟩))
        go_ret
        exact F1.out
      · have u0 : decide ((p.L.length : Int) < (n : Int)) = false := by simp; omega
        go_wp2_with (first | (go_at_call 49; refine (PA.out _).mono ?_; rintro e w' ⟨rfl, rfl⟩))
        go_ret
        exact F2.out
  · have u0 : ((v : Int) == 0) = false := by simp; omega
    have u1 : decide ((v : Int) = 0) = false := by simp; omega
    go_quiet (fail)
    have F2 := Lib.hid (FIN2.out (w1.drewN nq) ((Keeps.refl none' w1).drewN nq))
    clear ln ln2 FIN1 FIN2 LK CEL CT
    go_wp2_with (first | (go_at_call 49; refine (PA.out _).mono ?_; rintro e w' ⟨rfl, rfl⟩))
    go_ret
    exact F2.out
end Go.Proofs.Ytgonpaofickffaa
