/- A pixel written: the walks. -/
import Derived.Test.YtgonpaofickffaaTH
namespace Go.Proofs.Ytgonpaofickffaa
open Go.RowKit Go.Maps
set_option linter.unusedVariables false

theorem wrap_u32 (v : Nat) (hv : v ≤ 4294967295) : IntKind.u32.wrap (v : Int) = (v : Int) := by
  simp only [IntKind.wrap, IntKind.bits, IntKind.signed]
  simp
  omega
theorem set_out (w : World) (S : St) (h : Rep w S) (k : Nat) (p : Pl) (hk : S.ps[k]? = some p) (x y v : Int) (ho : ¬ (0 ≤ x ∧ x < p.W ∧ 0 ≤ y ∧ y < p.H)) :
    Calls Try.prog 16 #[.pointer (some ⟨p.pb, 0, none⟩), .int .i64 x, .int .i64 y, .int .i64 v] w fun e w' => e = .returned (.int .i64 12) ∧ w' = w := by
  have C := inside_any w _ _ _ _ _ (h.plane k p hk).1 x y
  rw [decide_eq_false ho] at C
  have C := Lib.hid C
  clear h hk ho
  go_enter Try.func16, Try.ntmps16
  go_wp2_with (go_at_call 28; refine C.out.mono ?_; rintro e w' ⟨rfl, rfl⟩)
  go_ret
  exact ⟨rfl, rfl⟩
theorem set_value (w : World) (S : St) (h : Rep w S) (k : Nat) (p : Pl) (hk : S.ps[k]? = some p) (x y v : Int) (hi : 0 ≤ x ∧ x < p.W ∧ 0 ≤ y ∧ y < p.H) (hv : ¬ (0 ≤ v ∧ v ≤ 4294967295)) :
    Calls Try.prog 16 #[.pointer (some ⟨p.pb, 0, none⟩), .int .i64 x, .int .i64 y, .int .i64 v] w fun e w' => e = .returned (.int .i64 32) ∧ w' = w := by
  have C := inside_any w _ _ _ _ _ (h.plane k p hk).1 x y
  rw [decide_eq_true hi] at C
  have C := Lib.hid C
  have CV := isPixel_any v w
  rw [show (decide (0 ≤ v) && decide (v ≤ 4294967295)) = false by simp; omega] at CV
  have CV := Lib.hid CV
  clear h hk hi hv
  go_enter Try.func16, Try.ntmps16
  go_wp2_with (first | (go_at_call 28; refine C.out.mono ?_; rintro e w' ⟨rfl, rfl⟩) | (go_at_call 31; refine CV.out.mono ?_; rintro e w' ⟨rfl, rfl⟩))
  go_ret
  exact ⟨rfl, rfl⟩
set_option maxHeartbeats 1600000 in
set_option maxRecDepth 100000 in
theorem set_same (w : World) (S : St) (h : Rep w S) (k : Nat) (p : Pl) (hk : S.ps[k]? = some p) (x y v : Nat) (hx : x < p.W) (hy : y < p.H) (hv : v ≤ 4294967295) (hs : px S p x y = v) :
    Calls Try.prog 16 #[.pointer (some ⟨p.pb, 0, none⟩), .int .i64 (x : Int), .int .i64 (y : Int), .int .i64 (v : Int)] w fun e w' => e = .returned (.int .i64 0) ∧ Keeps none' w w' := by
  have hW : p.W ≤ 32768 ∧ p.H ≤ 32768 := (h.plane k p hk).2.2
  have C := inside_any w _ _ _ _ _ (h.plane k p hk).1 (x : Int) (y : Int)
  rw [decide_eq_true (by omega)] at C
  have C := Lib.hid C
  have CV := isPixel_any (v : Int) w
  rw [decide_eq_true (by omega), decide_eq_true (by omega)] at CV
  have CV := Lib.hid CV
  have CP := placeOf_any x y (by omega) (by omega)
  obtain ⟨I, hI⟩ : ∃ I, I = x / 16 := ⟨_, rfl⟩
  obtain ⟨J, hJ⟩ : ∃ J, J = y / 16 := ⟨_, rfl⟩
  rw [← hI, ← hJ] at CP
  simp only [keyV] at CP
  have CP := Lib.hid (CP w)
  have HI := Lib.hid hI
  have HJ := Lib.hid hJ
  have H := Lib.hid h
  have HK := Lib.hid hk
  have hvw : IntKind.u32.wrap (v : Int) = (v : Int) := wrap_u32 v hv
  clear h hk hI hJ
  go_enter Try.func16, Try.ntmps16
  go_wp2_with (first | (go_at_call 28; refine C.out.mono ?_; rintro e w' ⟨rfl, rfl⟩) | (go_at_call 31; refine CV.out.mono ?_; rintro e w' ⟨rfl, rfl⟩) | (go_at_call 29; refine CP.out.mono ?_; rintro e w5 ⟨rfl, hx5⟩))
  obtain ⟨w1, hw1⟩ : ∃ w1, w1 = w5.alloc (.cells #[.int .i64 (I : Int), .int .i64 (J : Int)] 70) := ⟨_, rfl⟩
  have W0 := Lib.hid (show Keeps none' w' w1 by rw [hw1]; exact hx5.alloc _)
  have c0 : w1.cell? ⟨w5.heap.size, 0, none⟩ = some (.int .i64 (I : Int)) := by rw [hw1]; exact cell_at rfl
  have c1 : w1.cell? ⟨w5.heap.size, 1, none⟩ = some (.int .i64 (J : Int)) := by rw [hw1]; exact cell_at rfl
  have HB0 := Lib.hid (show w'.heap.size ≤ w5.heap.size from hx5.size)
  rw [← hw1]
  clear hw1 hx5
  generalize w5.heap.size = B at *
  have H := Lib.hid (H.out.later W0.out)
  obtain ⟨-, -, -, x3⟩ := H.out.cells HK.out
  have lk := H.out.lookup HK.out I J (by have := HI.out; omega) (by have := HJ.out; omega)
  obtain ⟨u, hu⟩ : ∃ u, u = tileV (p.T I J) := ⟨_, rfl⟩
  rw [← hu] at lk
  have lk0 := lk 0
  have HU := Lib.hid hu
  clear hu
  go_quiet (fail)
  have H := Lib.hid (H.out.drewN nq)
  have W0 := Lib.hid (W0.out.drewN nq)
  have c0 : (w1.drewN nq).cell? ⟨B, 0, none⟩ = some (.int .i64 (I : Int)) := c0
  have c1 : (w1.drewN nq).cell? ⟨B, 1, none⟩ = some (.int .i64 (J : Int)) := c1
  obtain ⟨w2, hw2⟩ : ∃ w2, w2 = w1.drewN nq := ⟨_, rfl⟩
  rw [← hw2] at H W0 c0 c1 ⊢
  have CA := H.out.look_px HK.out x y (by omega) (by omega)
  rw [← HI.out, ← HJ.out, ← HU.out] at CA
  clear lk lk0 x3 hw2
  obtain ⟨z, hz⟩ : ∃ z, z = px S p x y := ⟨_, rfl⟩
  rw [← hz] at CA
  have CA := Lib.hid CA
  have CN := alone_any w2 _ _ _ (H.out.lookD HK.out I J)
  rw [← HU.out] at CN
  have CN := Lib.hid CN
  rw [show z = v by omega] at CA
  go_wp2_with (first | (go_at_call 30; refine CA.out.mono ?_; rintro e w' ⟨rfl, rfl⟩))
  go_ret
  exact ⟨rfl, W0.out⟩
set_option maxHeartbeats 1600000 in
set_option maxRecDepth 100000 in
theorem set_full (w : World) (S : St) (h : Rep w S) (k : Nat) (p : Pl) (hk : S.ps[k]? = some p) (x y v : Nat) (hx : x < p.W) (hy : y < p.H) (hv : v ≤ 4294967295) (hs : px S p x y ≠ v) (hna : ¬ aloneP S p (x / 16) (y / 16)) (hf : S.free = 0) :
    Calls Try.prog 16 #[.pointer (some ⟨p.pb, 0, none⟩), .int .i64 (x : Int), .int .i64 (y : Int), .int .i64 (v : Int)] w fun e w' => e = .returned (.int .i64 30) ∧ Keeps none' w w' := by
  have hW : p.W ≤ 32768 ∧ p.H ≤ 32768 := (h.plane k p hk).2.2
  have C := inside_any w _ _ _ _ _ (h.plane k p hk).1 (x : Int) (y : Int)
  rw [decide_eq_true (by omega)] at C
  have C := Lib.hid C
  have CV := isPixel_any (v : Int) w
  rw [decide_eq_true (by omega), decide_eq_true (by omega)] at CV
  have CV := Lib.hid CV
  have CP := placeOf_any x y (by omega) (by omega)
  obtain ⟨I, hI⟩ : ∃ I, I = x / 16 := ⟨_, rfl⟩
  obtain ⟨J, hJ⟩ : ∃ J, J = y / 16 := ⟨_, rfl⟩
  rw [← hI, ← hJ] at CP
  simp only [keyV] at CP
  have CP := Lib.hid (CP w)
  have HI := Lib.hid hI
  have HJ := Lib.hid hJ
  have H := Lib.hid h
  have HK := Lib.hid hk
  have hvw : IntKind.u32.wrap (v : Int) = (v : Int) := wrap_u32 v hv
  clear h hk hI hJ
  go_enter Try.func16, Try.ntmps16
  go_wp2_with (first | (go_at_call 28; refine C.out.mono ?_; rintro e w' ⟨rfl, rfl⟩) | (go_at_call 31; refine CV.out.mono ?_; rintro e w' ⟨rfl, rfl⟩) | (go_at_call 29; refine CP.out.mono ?_; rintro e w5 ⟨rfl, hx5⟩))
  obtain ⟨w1, hw1⟩ : ∃ w1, w1 = w5.alloc (.cells #[.int .i64 (I : Int), .int .i64 (J : Int)] 70) := ⟨_, rfl⟩
  have W0 := Lib.hid (show Keeps none' w' w1 by rw [hw1]; exact hx5.alloc _)
  have c0 : w1.cell? ⟨w5.heap.size, 0, none⟩ = some (.int .i64 (I : Int)) := by rw [hw1]; exact cell_at rfl
  have c1 : w1.cell? ⟨w5.heap.size, 1, none⟩ = some (.int .i64 (J : Int)) := by rw [hw1]; exact cell_at rfl
  have HB0 := Lib.hid (show w'.heap.size ≤ w5.heap.size from hx5.size)
  rw [← hw1]
  clear hw1 hx5
  generalize w5.heap.size = B at *
  have H := Lib.hid (H.out.later W0.out)
  obtain ⟨-, -, -, x3⟩ := H.out.cells HK.out
  have lk := H.out.lookup HK.out I J (by have := HI.out; omega) (by have := HJ.out; omega)
  obtain ⟨u, hu⟩ : ∃ u, u = tileV (p.T I J) := ⟨_, rfl⟩
  rw [← hu] at lk
  have lk0 := lk 0
  have HU := Lib.hid hu
  clear hu
  go_quiet (fail)
  have H := Lib.hid (H.out.drewN nq)
  have W0 := Lib.hid (W0.out.drewN nq)
  have c0 : (w1.drewN nq).cell? ⟨B, 0, none⟩ = some (.int .i64 (I : Int)) := c0
  have c1 : (w1.drewN nq).cell? ⟨B, 1, none⟩ = some (.int .i64 (J : Int)) := c1
  obtain ⟨w2, hw2⟩ : ∃ w2, w2 = w1.drewN nq := ⟨_, rfl⟩
  rw [← hw2] at H W0 c0 c1 ⊢
  have CA := H.out.look_px HK.out x y (by omega) (by omega)
  rw [← HI.out, ← HJ.out, ← HU.out] at CA
  clear lk lk0 x3 hw2
  obtain ⟨z, hz⟩ : ∃ z, z = px S p x y := ⟨_, rfl⟩
  rw [← hz] at CA
  have CA := Lib.hid CA
  have CN := alone_any w2 _ _ _ (H.out.lookD HK.out I J)
  rw [← HU.out] at CN
  have CN := Lib.hid CN
  have u1 : ((z : Int) == (v : Int)) = false := by simp; omega
  have u2 : decide ((z : Int) = (v : Int)) = false := by simp; omega
  rw [← HI.out, ← HJ.out] at hna
  have hnn : decide (cntAt S p I J = 1) = false := decide_eq_false (fun e => hna (cntAt_one.1 e))
  rw [hnn] at CN
  have x0 := (H.out.cells HK.out).1
  have f0 := (H.out.free).1
  rw [hf] at f0
  clear hnn hna hs hz
  go_wp2_with (first | (go_at_call 30; refine CA.out.mono ?_; rintro e w' ⟨rfl, rfl⟩) | (go_at_call 32; refine CN.out.mono ?_; rintro e w' ⟨rfl, rfl⟩))
  go_ret
  exact ⟨rfl, W0.out⟩
set_option maxHeartbeats 1600000 in
set_option maxRecDepth 100000 in
theorem set_does (w : World) (S : St) (h : Rep w S) (k : Nat) (p : Pl) (hk : S.ps[k]? = some p) (x y v : Nat) (hx : x < p.W) (hy : y < p.H) (hv : v ≤ 4294967295) (hs : px S p x y ≠ v) (hro : aloneP S p (x / 16) (y / 16) ∨ S.live.length < S.cap) :
    Calls Try.prog 16 #[.pointer (some ⟨p.pb, 0, none⟩), .int .i64 (x : Int), .int .i64 (y : Int), .int .i64 (v : Int)] w fun e w' => e = .returned (.int .i64 0) ∧ ∃ t' S', Owned w.heap.size S k p (x / 16) (y / 16) t' S' ∧ Rep w' (S'.paint t' (fun j => if j = y % 16 * 16 + x % 16 then v else S'.pix t' j)) ∧ Keeps (Foot S) w w' := by
  have hW : p.W ≤ 32768 ∧ p.H ≤ 32768 := (h.plane k p hk).2.2
  have C := inside_any w _ _ _ _ _ (h.plane k p hk).1 (x : Int) (y : Int)
  rw [decide_eq_true (by omega)] at C
  have C := Lib.hid C
  have CV := isPixel_any (v : Int) w
  rw [decide_eq_true (by omega), decide_eq_true (by omega)] at CV
  have CV := Lib.hid CV
  have CP := placeOf_any x y (by omega) (by omega)
  obtain ⟨I, hI⟩ : ∃ I, I = x / 16 := ⟨_, rfl⟩
  obtain ⟨J, hJ⟩ : ∃ J, J = y / 16 := ⟨_, rfl⟩
  rw [← hI, ← hJ] at CP
  simp only [keyV] at CP
  have CP := Lib.hid (CP w)
  have HI := Lib.hid hI
  have HJ := Lib.hid hJ
  have H := Lib.hid h
  have HK := Lib.hid hk
  have hvw : IntKind.u32.wrap (v : Int) = (v : Int) := wrap_u32 v hv
  clear h hk hI hJ
  go_enter Try.func16, Try.ntmps16
  go_wp2_with (first | (go_at_call 28; refine C.out.mono ?_; rintro e w' ⟨rfl, rfl⟩) | (go_at_call 31; refine CV.out.mono ?_; rintro e w' ⟨rfl, rfl⟩) | (go_at_call 29; refine CP.out.mono ?_; rintro e w5 ⟨rfl, hx5⟩))
  obtain ⟨w1, hw1⟩ : ∃ w1, w1 = w5.alloc (.cells #[.int .i64 (I : Int), .int .i64 (J : Int)] 70) := ⟨_, rfl⟩
  have W0 := Lib.hid (show Keeps none' w' w1 by rw [hw1]; exact hx5.alloc _)
  have c0 : w1.cell? ⟨w5.heap.size, 0, none⟩ = some (.int .i64 (I : Int)) := by rw [hw1]; exact cell_at rfl
  have c1 : w1.cell? ⟨w5.heap.size, 1, none⟩ = some (.int .i64 (J : Int)) := by rw [hw1]; exact cell_at rfl
  have HB0 := Lib.hid (show w'.heap.size ≤ w5.heap.size from hx5.size)
  rw [← hw1]
  clear hw1 hx5
  generalize w5.heap.size = B at *
  have H := Lib.hid (H.out.later W0.out)
  obtain ⟨-, -, -, x3⟩ := H.out.cells HK.out
  have lk := H.out.lookup HK.out I J (by have := HI.out; omega) (by have := HJ.out; omega)
  obtain ⟨u, hu⟩ : ∃ u, u = tileV (p.T I J) := ⟨_, rfl⟩
  rw [← hu] at lk
  have lk0 := lk 0
  have HU := Lib.hid hu
  clear hu
  go_quiet (fail)
  have H := Lib.hid (H.out.drewN nq)
  have W0 := Lib.hid (W0.out.drewN nq)
  have c0 : (w1.drewN nq).cell? ⟨B, 0, none⟩ = some (.int .i64 (I : Int)) := c0
  have c1 : (w1.drewN nq).cell? ⟨B, 1, none⟩ = some (.int .i64 (J : Int)) := c1
  obtain ⟨w2, hw2⟩ : ∃ w2, w2 = w1.drewN nq := ⟨_, rfl⟩
  rw [← hw2] at H W0 c0 c1 ⊢
  have CA := H.out.look_px HK.out x y (by omega) (by omega)
  rw [← HI.out, ← HJ.out, ← HU.out] at CA
  clear lk lk0 x3 hw2
  obtain ⟨z, hz⟩ : ∃ z, z = px S p x y := ⟨_, rfl⟩
  rw [← hz] at CA
  have CA := Lib.hid CA
  have CN := alone_any w2 _ _ _ (H.out.lookD HK.out I J)
  rw [← HU.out] at CN
  have CN := Lib.hid CN
  have u1 : ((z : Int) == (v : Int)) = false := by simp; omega
  have u2 : decide ((z : Int) = (v : Int)) = false := by simp; omega
  have x0 := (H.out.cells HK.out).1
  have f0 := (H.out.free).1
  rw [← HI.out, ← HJ.out] at hro
  have CO := Lib.hid (own_any w2 S H.out k p HK.out I J (by have := HI.out; omega) (by have := HJ.out; omega) hro)
  have FR : ¬ cntAt S p I J = 1 → ((S.free : Int) == 0) = false ∧ decide ((S.free : Int) = 0) = false := fun e => by
    have h1 := hro.resolve_left (fun e2 => e (cntAt_one.2 e2))
    have : S.free ≠ 0 := by unfold St.free; omega
    simp [this]
  have HZ := Lib.hid hz
  have HS := Lib.hid hs
  clear hz hs hro
  have FIN : ∀ t' S' w6, Owned w2.heap.size S k p I J t' S' → Rep w6 S' → Keeps (Foot S) w2 w6 → ∃ (tt : t' ∈ S'.live) (tc : True), w6.cell? ⟨t', 1 + y % 16 * 16 + x % 16, none⟩ = some (.int .u32 (S'.pix t' (y % 16 * 16 + x % 16) : Int)) ∧ w6.frozen? ⟨t', 1 + y % 16 * 16 + x % 16, none⟩ = false ∧
      Hid (Owned w'.heap.size S k p (x / 16) (y / 16) t' S' ∧ Rep (w6.setCell ⟨t', 1 + y % 16 * 16 + x % 16, none⟩ (.int .u32 (v : Int))) (S'.paint t' (fun j => if j = y % 16 * 16 + x % 16 then v else S'.pix t' j)) ∧ Keeps (Foot S) w' (w6.setCell ⟨t', 1 + y % 16 * 16 + x % 16, none⟩ (.int .u32 (v : Int)))) := by
    intro t' S' w6 ho hr hk6
    obtain ⟨-, q1, q2, q3⟩ := owned_tile H.out HK.out ho hr
    have hT := hr.tile t' q1
    rw [q2, q3] at hT
    obtain ⟨d0, d1⟩ := hT.cell2 (a := y % 16) (b := x % 16) (by omega) (by omega)
    refine ⟨q1, trivial, d0, d1, ?_⟩
    refine Lib.hid ⟨by rw [← HI.out, ← HJ.out]; exact ho.mono W0.out.size, ?_, ?_⟩
    · refine hr.paint q1 (fun j => ?_) ?_ ((Keeps.refl (fun b => b = t') w6).setCell (p := ⟨t', 1 + y % 16 * 16 + x % 16, none⟩) (fun _ => rfl) _)
      · split
        · exact hv
        · exact hr.small t' q1 j
      · rw [q2, q3, Nat.add_assoc]
        exact hT.setPix (fun j _ => rfl)
    · refine ((W0.out.mono (S1 := Foot S) (fun b _ h => h.elim)).trans hk6 (fun b _ h => h)).setCell (fun hlt => ?_) _
      rcases ho with ⟨-, h3, -⟩ | ⟨-, h2, -⟩
      · exact Or.inr (Or.inr (H.out.at_ k p HK.out I J t' h3).1)
      · have := W0.out.size
        simp only at hlt
        omega
  have FIN := Lib.hid FIN
  by_cases hal : cntAt S p I J = 1
  · rw [decide_eq_true hal] at CN
    clear FR
    go_wp2_with (first | (go_at_call 30; refine CA.out.mono ?_; rintro e w' ⟨rfl, rfl⟩) | (go_at_call 32; refine CN.out.mono ?_; rintro e w' ⟨rfl, rfl⟩) | (go_at_call 33; refine CO.out.mono ?_; rintro e w6 ⟨t', S', ho, rfl, hr, hk6⟩; obtain ⟨tt, tc, d0, d1, HO⟩ := FIN.out t' S' w6 ho hr hk6; clear ho hr hk6))
    go_ret
    exact ⟨rfl, t', S', HO.out.1, HO.out.2.1, HO.out.2.2⟩
  · rw [decide_eq_false hal] at CN
    obtain ⟨u3, u4⟩ := FR hal
    clear FR
    go_wp2_with (first | (go_at_call 30; refine CA.out.mono ?_; rintro e w' ⟨rfl, rfl⟩) | (go_at_call 32; refine CN.out.mono ?_; rintro e w' ⟨rfl, rfl⟩) | (go_at_call 33; refine CO.out.mono ?_; rintro e w6 ⟨t', S', ho, rfl, hr, hk6⟩; obtain ⟨tt, tc, d0, d1, HO⟩ := FIN.out t' S' w6 ho hr hk6; clear ho hr hk6))
    go_ret
    exact ⟨rfl, t', S', HO.out.1, HO.out.2.1, HO.out.2.2⟩
end Go.Proofs.Ytgonpaofickffaa
