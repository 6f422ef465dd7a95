/- The iterator over the places of an area. -/
import Derived.Test.YtgonpaofickffaaTN
import Derived.Deep.RegionWith
namespace Go.Proofs.Ytgonpaofickffaa
open Go.RowKit Go.Maps Go.Shelf
attribute [local go_sem] Oper.semAt_some
set_option linter.unusedVariables false

theorem Keeps.grownBy {w w' : World} (h : Keeps none' w w') : w.grownBy w' none := ⟨h.os, h.tape, h.output, h.size, fun i hi _ => h.later i hi⟩
theorem heap_at {w : World} {o : Obj} {k : Nat} (h : k = w.heap.size) : (w.alloc o).heap[k]? = some o := by rw [h]; exact heap_alloc_new _ _
theorem heap_past {w : World} {o : Obj} {k : Nat} {v : Option Obj} (h : k < w.heap.size) (h2 : w.heap[k]? = v) : (w.alloc o).heap[k]? = v := (Below.heap_alloc _ _ _ h).trans h2
theorem heap_drew {w : World} {k : Nat} {v : Option Obj} (h : w.heap[k]? = v) : w.drew.heap[k]? = v := h
theorem tiles_exact (f t a b : Nat) (hf : f ≤ 1048576) (ht : t ≤ 1048576) (ha : a = if t - f = 0 then 0 else f / 16) (hb : b = if t - f = 0 then 0 else (t - 1) / 16 + 1) (w : World) :
    Calls Try.prog 50 #[.agg #[.int .i64 (f : Int), .int .i64 (t : Int)]] w fun e w' => e = .returned (.agg #[.int .i64 (a : Int), .int .i64 (b : Int)]) ∧
      w' = ((w.alloc (.cells #[.int .i64 (f : Int), .int .i64 (t : Int)] 79)).alloc (.cells #[.int .i64 (a : Int), .int .i64 (b : Int)] 79)).alloc (.cells #[.int .i64 (f : Int), .int .i64 (t : Int)] 79) := by
  have C := Lib.hid (count_any f t hf ht)
  by_cases h0 : t - f = 0
  · rw [if_pos h0] at ha hb
    subst ha hb
    rw [h0] at C
    go_enter Try.func50, Try.ntmps50
    go_wp2_with fail
    refine (C.out _).mono ?_
    rintro e w' ⟨rfl, rfl⟩
    go_wp2_with fail
    refine bodyPost_ret (results_cell_row rfl _ _ (w.heap.size + 1) 79 #[.int .i64 0, .int .i64 0] (0, 0) _ rfl ?_ Try.underlying79 rfl (by kernel_rfl)) rfl ?_
    · exact heap_second w _ _ _
    · exact ⟨rfl, rfl⟩
  · rw [if_neg h0] at ha hb
    obtain ⟨c, hc⟩ : ∃ c, c = t - f := ⟨_, rfl⟩
    rw [← hc] at C
    have u0 : ((c : Int) == 0) = false := by simp; omega
    have e4 : wrap64 (((t : Int) - 1).tdiv 16 + 1) = (b : Int) := by
      rw [show ((t : Int) - 1) = ((t - 1 : Nat) : Int) by omega, show ((t - 1 : Nat) : Int).tdiv 16 = (((t - 1) / 16 : Nat) : Int) from rfl, wrap64_nat' _ (by omega) (by omega)]
      omega
    have e5 : (f : Int) / 16 = (a : Int) := by omega
    clear hc h0 ha hb
    go_enter Try.func50, Try.ntmps50
    go_wp2_with fail
    refine (C.out _).mono ?_
    rintro e w' ⟨rfl, rfl⟩
    go_wp2_with fail
    refine bodyPost_ret (results_cell_row rfl _ _ (w.heap.size + 1) 79 #[.int .i64 (a : Int), .int .i64 (b : Int)] (0, 0) _ rfl ?_ Try.underlying79 rfl (by kernel_rfl)) rfl ?_
    · exact heap_second w _ _ _
    · exact ⟨rfl, rfl⟩
set_option maxRecDepth 100000 in
set_option maxHeartbeats 8000000 in
theorem places1_in (l Bm : Nat) (xf xt yf yt : Nat) (h1 : xf ≤ 32768) (h2 : xt ≤ 32768) (h3 : yf ≤ 32768) (h4 : yt ≤ 32768) (J Jx : List Plc → World → Prop)
    (hY : ∀ pre x W, J pre W → pre.length < 4194304 → YieldAt Fence.wide (1 - 1) Try.prog l (encP x) W fun e W' =>
      (e = .returned (.bool true) ∧ J (pre ++ [x]) W' ∧ KpT W W') ∨ (e = .returned (.bool false) ∧ Jx (pre ++ [x]) W'))
    (W : World) (hJ : AbidesFrom W.heap.size J) (hm : W.heap[Bm]? = some (.cells #[.int .i64 (xf : Int), .int .i64 (xt : Int), .int .i64 (yf : Int), .int .i64 (yt : Int)] 82 (0, 0))) (h0 : J [] W) :
    CallsIn Fence.wide 1 Try.prog 53 #[.func (.yield l) #[] #[], .pointer (some ⟨Bm, 0, none⟩)] W fun e W' => (∃ v, e = .returned v) ∧
      ((∃ xs, Gives (fun i j => i < 2048 ∧ j < 2048 ∧ xf / 16 ≤ i ∧ i * 16 < xt ∧ xf < xt ∧ yf / 16 ≤ j ∧ j * 16 < yt ∧ yf < yt) xs ∧ J xs W') ∨ (∃ pre : List Plc, pre.Nodup ∧ Jx pre W')) := by
  obtain ⟨a, ha⟩ : ∃ a, a = if xt - xf = 0 then 0 else xf / 16 := ⟨_, rfl⟩
  obtain ⟨b, hb⟩ : ∃ b, b = if xt - xf = 0 then 0 else (xt - 1) / 16 + 1 := ⟨_, rfl⟩
  obtain ⟨c, hc⟩ : ∃ c, c = if yt - yf = 0 then 0 else yf / 16 := ⟨_, rfl⟩
  obtain ⟨d, hd⟩ : ∃ d, d = if yt - yf = 0 then 0 else (yt - 1) / 16 + 1 := ⟨_, rfl⟩
  have C1 := Lib.hid (tiles_exact xf xt a b (by omega) (by omega) ha hb)
  have C2 := Lib.hid (tiles_exact yf yt c d (by omega) (by omega) hc hd)
  have hx0 : W.cell? ⟨Bm, 0, none⟩ = some (.int .i64 (xf : Int)) := by simp [World.cell?, hm]
  have hx1 : W.cell? ⟨Bm, 1, none⟩ = some (.int .i64 (xt : Int)) := by simp [World.cell?, hm]
  have hx2 : W.cell? ⟨Bm, 2, none⟩ = some (.int .i64 (yf : Int)) := by simp [World.cell?, hm]
  have hx3 : W.cell? ⟨Bm, 3, none⟩ = some (.int .i64 (yt : Int)) := by simp [World.cell?, hm]
  have hlt : Bm < W.heap.size := lt_of_block hm
  have hl1 : Bm < W.heap.size + 1 := by omega
  have hl2 : Bm < W.heap.size + 1 + 1 := by omega
  have hl3 : Bm < W.heap.size + 1 + 1 + 1 := by omega
  have hl4 : Bm < W.heap.size + 1 + 1 + 1 + 1 := by omega
  have hl5 : Bm < W.heap.size + 1 + 1 + 1 + 1 + 1 := by omega
  have hl6 : Bm < W.heap.size + 1 + 1 + 1 + 1 + 1 + 1 := by omega
  have hl7 : Bm < W.heap.size + 1 + 1 + 1 + 1 + 1 + 1 + 1 := by omega
  have hl8 : Bm < W.heap.size + 1 + 1 + 1 + 1 + 1 + 1 + 1 + 1 := by omega
  have hl9 : Bm < W.heap.size + 1 + 1 + 1 + 1 + 1 + 1 + 1 + 1 + 1 := by omega
  have HABCD := Lib.hid (And.intro ha (And.intro hb (And.intro hc hd)))
  have HY := Lib.hid hY
  have HJ := Lib.hid hJ
  have H00 := Lib.hid h0
  clear ha hb hc hd hY hJ h0 hm
  refine callsIn_of_wp Try.func53 rfl trivial ?_ rfl
  simp only [Try.ntmps53, List.size_toArray, List.length_cons, List.length_nil, Nat.reduceAdd, Nat.reduceSub, Array.replicate_succ, Array.replicate_zero, List.push_toArray, List.append_toArray, List.nil_append, List.cons_append]
  gi_wp2
  rename_i K hK
  have LOOP : ∀ (B3 B4 : Nat) (w1 : World), w1.heap[B3]? = some (.cells #[.int .i64 (a : Int), .int .i64 (b : Int)] 79 (0, 0)) → w1.heap[B4]? = some (.cells #[.int .i64 (c : Int), .int .i64 (d : Int)] 79 (0, 0)) → W.grownBy w1 none →
      K { tmps := #[.func (.yield l) #[] #[], .pointer (some ⟨Bm, 0, none⟩), undef, .pointer (some ⟨B3, 0, none⟩), .pointer (some ⟨B4, 0, none⟩), undef, undef, .pointer (some ⟨Bm, 0, none⟩), .agg #[.int .i64 (xf : Int), .int .i64 (xt : Int)], .agg #[.int .i64 (a : Int), .int .i64 (b : Int)], .pointer (some ⟨Bm, 2, none⟩), .agg #[.int .i64 (yf : Int), .int .i64 (yt : Int)], .agg #[.int .i64 (c : Int), .int .i64 (d : Int)], undef, undef, undef, undef, undef, undef, undef, undef, undef, undef, undef, undef, undef, undef, undef, undef, undef, undef, undef, undef, undef, undef], defers := [] } w1 := by
    intro B3 B4 w1 g3 g4 hg
    refine hK _ _ ?_
    obtain ⟨ha, hb, hc, hd⟩ := HABCD.out
    have hb2 : b ≤ 2048 := by rw [hb]; split <;> omega
    have hd2 : d ≤ 2048 := by rw [hd]; split <;> omega
    have ha2 : a ≤ 2048 := by rw [ha]; split <;> omega
    have hc2 : c ≤ 2048 := by rw [hc]; split <;> omega
    have CEL : ∀ wr : World, wr.heap[B3]? = w1.heap[B3]? → wr.heap[B4]? = w1.heap[B4]? → wr.cell? ⟨B3, 0, none⟩ = some (.int .i64 (a : Int)) ∧ wr.cell? ⟨B3, 1, none⟩ = some (.int .i64 (b : Int)) ∧ wr.cell? ⟨B4, 0, none⟩ = some (.int .i64 (c : Int)) ∧ wr.cell? ⟨B4, 1, none⟩ = some (.int .i64 (d : Int)) := by
      intro wr e3 e4
      rw [g3] at e3
      rw [g4] at e4
      simp [World.cell?, e3, e4]
    have CEL := Lib.hid CEL
    have G := Lib.hid (And.intro g3 g4)
    obtain ⟨x0, x1, x2, x3⟩ := CEL.out w1 rfl rfl
    have J1 := Lib.hid (HJ.out [] W w1 none H00.out hg (fun r e => by cases e))
    have FINAL : ∀ xs : List Plc, xs.Nodup → (∀ i' j', (∃ h, (⟨(i', j'), h⟩ : Plc) ∈ xs) ↔ a ≤ i' ∧ i' < b ∧ c ≤ j' ∧ j' < d) → Gives (fun i j => i < 2048 ∧ j < 2048 ∧ xf / 16 ≤ i ∧ i * 16 < xt ∧ xf < xt ∧ yf / 16 ≤ j ∧ j * 16 < yt ∧ yf < yt) xs := by
      intro xs hn hm
      refine ⟨hn, fun i j h => (hm i j).2 ?_⟩
      rw [if_neg (by omega)] at ha hb hc hd
      omega
    have FINAL := Lib.hid FINAL
    have HC2 := Lib.hid hc2
    clear ha hb hc hd g3 g4 hx0 hx1 hx2 hx3 hl1 hl2 hl3 hl4 hl5 hl6 hl7 hl8 hl9 hlt hg
    gi_wp2
    gi_loopw [5] (fun cnt wr => ∃ (j : Nat) (xs : List Plc), j ≤ 2048 ∧ cnt = .int .i64 j ∧ c ≤ j ∧ wr.heap[B3]? = w1.heap[B3]? ∧ wr.heap[B4]? = w1.heap[B4]? ∧ J xs wr ∧ xs.Nodup ∧ (∀ i' j', (∃ h, (⟨(i', j'), h⟩ : Plc) ∈ xs) ↔ a ≤ i' ∧ i' < b ∧ c ≤ j' ∧ j' < j) ∧ xs.length = (j - c) * (b - a) ∧ (j ≤ d ∨ j = c)) (fun cnt _ => d - (intOf cnt).toNat)
    case atStart => exact ⟨c, [], hc2, rfl, Nat.le_refl _, rfl, rfl, J1.out, List.nodup_nil, fun i' j' => by simp <;> omega, by simp, Or.inr rfl⟩
    case round =>
      clear x0 x1 x2 x3
      obtain ⟨j, xs, hj, rfl, hcj, e3, e4, hJ, hn, hm, hlen, hjd⟩ := hrel
      obtain ⟨x0, x1, x2, x3⟩ := CEL.out wr e3 e4
      obtain ⟨wo, hwo⟩ : ∃ wo, wo = wr := ⟨_, rfl⟩
      have R := Lib.hid (And.intro e3 (And.intro e4 (And.intro hJ (And.intro hn (And.intro hm hlen)))))
      clear e3 e4 hJ hn hm hlen
      by_cases hlt : j < d
      · rw [← hwo] at x0 x1 x2 x3 R ⊢
        clear hwo
        gi_wp2
        gi_loopw [6] (fun cnt wl => ∃ (i : Nat) (xs : List Plc), i ≤ 2048 ∧ cnt = .int .i64 i ∧ a ≤ i ∧ wl.heap[B3]? = w1.heap[B3]? ∧ wl.heap[B4]? = w1.heap[B4]? ∧ J xs wl ∧ xs.Nodup ∧ (∀ i' j', (∃ h, (⟨(i', j'), h⟩ : Plc) ∈ xs) ↔ a ≤ i' ∧ i' < b ∧ c ≤ j' ∧ j' < j ∨ j' = j ∧ a ≤ i' ∧ i' < i) ∧ xs.length = (j - c) * (b - a) + (i - a) ∧ (i ≤ b ∨ i = a)) (fun cnt _ => b - (intOf cnt).toNat)
        case atStart => exact ⟨a, xs, ha2, rfl, Nat.le_refl _, R.out.1, R.out.2.1, R.out.2.2.1, R.out.2.2.2.1, fun i' j' => by rw [R.out.2.2.2.2.1 i' j']; omega, by rw [R.out.2.2.2.2.2]; omega, Or.inr rfl⟩
        case round =>
          clear x0 x1 x2 x3
          obtain ⟨i, ys, hi, rfl, hai, e3, e4, hJ, hn, hm, hlen, hib⟩ := hrel
          obtain ⟨x0, x1, x2, x3⟩ := CEL.out wr e3 e4
          by_cases hltx : i < b
          · have hlenN : ys.length < 4194304 := by
              have : (j - c) * (b - a) ≤ 2047 * 2048 := Nat.mul_le_mul (by omega) (by omega)
              omega
            obtain ⟨fn, tmps, assign, body, hy, hR⟩ := HY.out ys ⟨(i, j), by omega, by omega⟩ wr hJ hlenN
            dsimp only [encP] at hy
            have NX : (ys ++ [(⟨(i, j), by omega, by omega⟩ : Plc)]).Nodup ∧ (∀ i' j', (∃ h, (⟨(i', j'), h⟩ : Plc) ∈ ys ++ [(⟨(i, j), by omega, by omega⟩ : Plc)]) ↔ a ≤ i' ∧ i' < b ∧ c ≤ j' ∧ j' < j ∨ j' = j ∧ a ≤ i' ∧ i' < i + 1) ∧ (ys ++ [(⟨(i, j), by omega, by omega⟩ : Plc)]).length = (j - c) * (b - a) + (i + 1 - a) := by
              refine ⟨List.nodup_append.2 ⟨hn, by simp, fun x hx y hy e => ?_⟩, fun i' j' => ?_, by rw [List.length_append, List.length_singleton, hlen]; omega⟩
              · rw [List.mem_singleton] at hy
                rw [e, hy] at hx
                have := (hm i j).1 ⟨_, hx⟩
                omega
              · constructor
                · rintro ⟨h, hmem⟩
                  rcases List.mem_append.1 hmem with h1 | h1
                  · have := (hm i' j').1 ⟨h, h1⟩
                    omega
                  · rw [List.mem_singleton] at h1
                    cases h1
                    omega
                · intro h
                  by_cases e : i' = i ∧ j' = j
                  · obtain ⟨rfl, rfl⟩ := e
                    exact ⟨⟨by omega, by omega⟩, by simp⟩
                  · obtain ⟨h, h1⟩ := (hm i' j').2 (by omega)
                    exact ⟨h, by simp [h1]⟩
            have NX := Lib.hid NX
            have E := Lib.hid (And.intro e3 e4)
            clear hJ hn hm hlen e3 e4 hlenN
            gi_wp2
            refine hR.mono ?_
            rintro e W3 (⟨rfl, hJ3, hk3⟩ | ⟨rfl, hJx3⟩)
            · have E2 := Lib.hid (And.intro ((hk3.2 B3 _ _ (E.out.1.trans G.out.1)).trans E.out.1) ((hk3.2 B4 _ _ (E.out.2.trans G.out.2)).trans E.out.2))
              clear hk3
              gi_wp2
              go_roundw
              case rel => exact ⟨i + 1, _, by omega, by go_num, by omega, E2.out.1, E2.out.2, hJ3, NX.out.1, NX.out.2.1, NX.out.2.2, Or.inl (by omega)⟩
              case measure => simp [intOf] <;> omega
            · gi_wp2
              refine bodyPost_ret (results_none rfl _ _ _) rfl ?_
              exact ⟨⟨_, rfl⟩, .inr ⟨_, NX.out.1, hJx3⟩⟩
          · have u0 : decide ((i : Int) < (b : Int)) = false := decide_eq_false (by omega)
            have NX := Lib.hid (And.intro e3 (And.intro e4 (And.intro hJ (And.intro hn (And.intro hm hlen)))))
            clear hJ hn hm hlen e3 e4
            gi_wp2
            go_roundw
            case rel => exact ⟨j + 1, ys, by omega, by go_num, by omega, NX.out.1, NX.out.2.1, NX.out.2.2.1, NX.out.2.2.2.1, fun i' j' => by rw [NX.out.2.2.2.2.1 i' j']; omega, by
              rw [NX.out.2.2.2.2.2, show j + 1 - c = (j - c) + 1 by omega, Nat.add_mul, Nat.one_mul]
              omega, Or.inl (by omega)⟩
            case measure => simp [intOf] <;> omega
      · have u0 : decide ((j : Int) < (d : Int)) = false := decide_eq_false (by omega)
        subst hwo
        gi_wp2
        go_end0
        exact ⟨⟨_, rfl⟩, .inl ⟨xs, FINAL.out xs R.out.2.2.2.1 (fun i' j' => by rw [R.out.2.2.2.2.1 i' j']; omega), R.out.2.2.1⟩⟩
  have LOOP := Lib.hid LOOP
  clear hK
  refine wpIn_wide.2 ?_
  go_region_with (first | (go_at_call_of 50 (xt); refine (C1.out _).mono ?_; rintro e w' ⟨rfl, rfl⟩) | (go_at_call_of 50 (yt); refine (C2.out _).mono ?_; rintro e w' ⟨rfl, rfl⟩))
  all_goals exact LOOP.out _ _ _ (by repeat (first | (refine heap_at ?_; simp; done) | (refine heap_past ?_ ?_; · first | (simp; done) | (simp; omega)) | (show (World.heap (World.drew _))[_]? = _; refine heap_drew ?_))) (by repeat (first | (refine heap_at ?_; simp; done) | (refine heap_past ?_ ?_; · first | (simp; done) | (simp; omega)) | (show (World.heap (World.drew _))[_]? = _; refine heap_drew ?_))) (Keeps.grownBy (by repeat (first | exact Keeps.refl _ _ | exact (Keeps.refl _ _).drew | apply Keeps.alloc | apply Keeps.drew)))
end Go.Proofs.Ytgonpaofickffaa
