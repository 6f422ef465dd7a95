/- Layers and documents compared (43, 26, 25, 13). (printed by genZO.py) -/
import Derived.Test.YtfcpbpfemmdklaaZN
import Derived.Test.YtfcpbpfemmdklaaX
namespace Go.Proofs.Ytfcpbpfemmdklaa
open Go.RowKit Go.Lib
set_option linter.unusedSimpArgs false
set_option linter.unusedVariables false

def mapB (d e : Dat) : Bool := d.ma == e.ma && d.mb == e.mb && d.mc == e.mc && d.md == e.md && d.me == e.me && d.mf == e.mf
/-- The same picture, seen in the same way? -/
def sightB (d e : Dat) : Bool := decide (d.w = e.w) && (decide (d.h = e.h) && (mapB d e && (decide (d.smooth = e.smooth) && decide (d.p = e.p))))
/-- Alike, but for the kids? -/
def datB (d e : Dat) : Bool := decide (d.id = e.id) && (decide (d.kind = e.kind) && (decide (d.hid = e.hid) && (decide (d.op = e.op) && (decide (d.mode = e.mode) && (sightB d e && (decide (d.mask = e.mask) && (decide (d.table = e.table) && decide (d.pars = e.pars))))))))
def sameP : List Lay → List Lay → Bool
  | [], [] => true
  | .mk d ks :: ls, .mk e js :: ms => (datB d e && sameP ks js) && sameP ls ms
  | _, _ => false
theorem mapB_true {d e : Dat} : mapB d e = true ↔ d.ma = e.ma ∧ d.mb = e.mb ∧ d.mc = e.mc ∧ d.md = e.md ∧ d.me = e.me ∧ d.mf = e.mf := by simp [mapB, and_assoc]
theorem datB_true {d e : Dat} : datB d e = true ↔ d = e := by
  constructor
  · intro h
    simp only [datB, sightB, Bool.and_eq_true, decide_eq_true_eq, mapB_true] at h
    obtain ⟨h1, h2, h3, h4, h5, ⟨g1, g2, ⟨m1, m2, m3, m4, m5, m6⟩, g3, g4⟩, h6, h7, h8⟩ := h
    cases d; cases e
    simp only at h1 h2 h3 h4 h5 h6 h7 h8 g1 g2 g3 g4 m1 m2 m3 m4 m5 m6
    subst h1 h2 h3 h4 h5 h6 h7 h8 g1 g2 g3 g4 m1 m2 m3 m4 m5 m6
    rfl
  · rintro rfl
    simp [datB, sightB, mapB]
theorem sameP_fuel : ∀ (n : Nat) (ls : List Lay), SizeOf.sizeOf ls ≤ n → ∀ ms : List Lay, sameP ls ms = true ↔ ls = ms
  | 0, ls, h, ms => by cases ls <;> simp at h
  | n + 1, [], h, [] => by simp [sameP]
  | n + 1, [], h, m :: ms => by simp [sameP]
  | n + 1, .mk d ks :: ls, h, [] => by simp [sameP]
  | n + 1, .mk d ks :: ls, h, .mk e js :: ms => by
    have h1 : SizeOf.sizeOf ks ≤ n := by simp only [List.cons.sizeOf_spec, Lay.mk.sizeOf_spec] at h; omega
    have h2 : SizeOf.sizeOf ls ≤ n := by simp only [List.cons.sizeOf_spec, Lay.mk.sizeOf_spec] at h; omega
    rw [sameP, Bool.and_eq_true, Bool.and_eq_true, datB_true, sameP_fuel n ks h1 js, sameP_fuel n ls h2 ms]
    simp
/-- Alike is equal. -/
theorem sameP_true {ls ms : List Lay} : sameP ls ms = true ↔ ls = ms := sameP_fuel _ ls (Nat.le_refl _) ms
theorem eq33 (a b c d f g a' b' c' d' f' g' : Int) (w : World) : (Op.equalIn 10000 33 (.agg #[.int .i64 a, .int .i64 b, .int .i64 c, .int .i64 d, .int .i64 f, .int .i64 g]) (.agg #[.int .i64 a', .int .i64 b', .int .i64 c', .int .i64 d', .int .i64 f', .int .i64 g'])).run Try.prog w = .ok (a == a' && b == b' && c == c' && d == d' && f == f' && g == g') w := by
  have u3 := Try.underlying3
  have a3 := Try.isAgg3
  have z3 := Try.sizeOf3
  rw [show (10000 : Nat) = 9999 + 1 from rfl, Op.equalIn]
  simp only [Sem.run_bind, run_underlying Try.underlying33, Result.andThen_ok]
  simp only [Std.Legacy.Range.forIn_eq_forIn_range', Std.Legacy.Range.size, Nat.sub_zero, Nat.add_sub_cancel, Nat.div_one, List.range'_succ, List.range'_zero, List.forIn_cons, List.forIn_nil]
  go_simp
  by_cases h1 : a = a'
  · by_cases h2 : b = b'
    · by_cases h3 : c = c'
      · by_cases h4 : d = d'
        · by_cases h5 : f = f'
          · by_cases h6 : g = g' <;> simp [h1, h2, h3, h4, h5, h6]
          · simp [h1, h2, h3, h4, h5]
        · simp [h1, h2, h3, h4]
      · simp [h1, h2, h3]
    · simp [h1, h2]
  · simp [h1]
/-- Two layers in blocks of their own. -/
def Lx (w : World) (A : Nat) (X : Array Value) : Prop := w.heap[A]? = some (.cells X 48 (0, 0))
set_option maxRecDepth 100000 in
set_option maxHeartbeats 3200000 in
theorem sight43 (d e : Dat) (p m q k p' m' q' k' : Hd) (w : World) (H : ReadR w 3 1 p (ints d.p)) (G : ReadR w 3 1 p' (ints e.p)) :
    Calls Try.prog 43 #[.agg (cells19 d p m q k).toArray, .agg (cells19 e p' m' q' k').toArray] w fun en w' => en = .returned (.bool (sightB d e)) ∧ Keeps none' w w' := by
  have HD := Lib.hid H
  have GD := Lib.hid G
  clear H G
  have K0 := Lib.hid (((Keeps.refl none' w).alloc (.cells (cells19 d p m q k).toArray 48)).alloc (.cells (cells19 e p' m' q' k').toArray 48))
  have A0 := Lib.hid ((Lb.new w d p m q k).later ((Keeps.refl none' _).alloc (.cells (cells19 e p' m' q' k').toArray 48)))
  have B0 := Lib.hid (Lb.new (w.alloc (.cells (cells19 d p m q k).toArray 48)) e p' m' q' k')
  have hs1 : (w.alloc (.cells (cells19 d p m q k).toArray 48)).heap.size = w.heap.size + 1 := by simp
  rw [hs1] at B0
  clear hs1
  obtain ⟨X, hX⟩ : ∃ X, X = (cells19 d p m q k).toArray := ⟨_, rfl⟩
  obtain ⟨Y, hY⟩ : ∃ Y, Y = (cells19 e p' m' q' k').toArray := ⟨_, rfl⟩
  rw [← hX, ← hY]
  rw [← hX] at B0
  rw [← hX, ← hY] at K0 A0
  rw [← hY] at B0
  have HX := Lib.hid hX
  have HY := Lib.hid hY
  clear hX hY
  obtain ⟨A, hA⟩ : ∃ A, A = w.heap.size := ⟨_, rfl⟩
  obtain ⟨C, hC⟩ : ∃ C, C = A + 1 := ⟨_, rfl⟩
  rw [← hA] at A0 B0
  rw [← hC] at B0
  go_enter Try.func43, Try.ntmps43
  go_upto_region 1 with (fail)
  rw [← hA, ← hC]
  clear hA hC
  generalize (w.alloc (.cells X 48)).alloc (.cells Y 48) = w1 at *
  have a5 := A0.out.c5
  have b5 := B0.out.c5
  have a6 := A0.out.c6
  have b6 := B0.out.c6
  have a7 := A0.out.c7
  have b7 := B0.out.c7
  have a9 := A0.out.c9
  have b9 := B0.out.c9
  have a10 := A0.out.c10
  have b10 := B0.out.c10
  have a11 := A0.out.c11
  have b11 := B0.out.c11
  have a12 := A0.out.c12
  have b12 := B0.out.c12
  have a13 := A0.out.c13
  have b13 := B0.out.c13
  have a14 := A0.out.c14
  have b14 := B0.out.c14
  have a15 := A0.out.c15
  have b15 := B0.out.c15
  by_cases t0 : d.w = e.w
  · have p0 : (d.w == e.w) = true := by simp [t0]
    have q0 : decide (d.w = e.w) = true := by simp [t0]
    have T0 := Lib.hid t0
    clear t0
    by_cases t1 : d.h = e.h
    · have p1 : (d.h == e.h) = true := by simp [t1]
      have q1 : decide (d.h = e.h) = true := by simp [t1]
      have T1 := Lib.hid t1
      clear t1
      cases t2 : mapB d e with
      | true =>
        have EM := fun w => eq33 d.ma d.mb d.mc d.md d.me d.mf e.ma e.mb e.mc e.md e.me e.mf w
        rw [show (d.ma == e.ma && d.mb == e.mb && d.mc == e.mc && d.md == e.md && d.me == e.me && d.mf == e.mf) = true from t2] at EM
        have T2 := Lib.hid t2
        clear t2
        by_cases t3 : d.smooth = e.smooth
        · have p3 : (d.smooth == e.smooth) = true := by simp [t3]
          have q3 : decide (d.smooth = e.smooth) = true := by simp [t3]
          have T3 := Lib.hid t3
          clear t3
          have HR := Lib.hid (show sightB d e = decide (d.p = e.p) from by simp [sightB, T0.out, T1.out, T2.out, T3.out])
          have CE := Lib.hid (equal45 p p' d.p e.p w1 (HD.out.keep K0.out (fun _ _ h => h)) (GD.out.keep K0.out (fun _ _ h => h)))
          go_wp2_with ((with_reducible refine CE.out.mono ?_); rintro en w2 ⟨rfl, hk⟩; have K2 := Lib.hid (K0.out.next hk); clear hk)
          go_ret
          exact ⟨by rw [HR.out]; rfl, K2.out⟩
        · have p3 : (d.smooth == e.smooth) = false := by simp [t3]
          have q3 : decide (d.smooth = e.smooth) = false := by simp [t3]
          have HR := Lib.hid (show sightB d e = false from by simp [sightB, t3])
          clear t3
          go_wp2_with fail
          go_ret
          exact ⟨by rw [HR.out]; rfl, K0.out⟩
      | false =>
        have EM := fun w => eq33 d.ma d.mb d.mc d.md d.me d.mf e.ma e.mb e.mc e.md e.me e.mf w
        rw [show (d.ma == e.ma && d.mb == e.mb && d.mc == e.mc && d.md == e.md && d.me == e.me && d.mf == e.mf) = false from t2] at EM
        have HR := Lib.hid (show sightB d e = false from by simp [sightB, t2])
        clear t2
        go_wp2_with fail
        go_ret
        exact ⟨by rw [HR.out]; rfl, K0.out⟩
    · have p1 : (d.h == e.h) = false := by simp [t1]
      have q1 : decide (d.h = e.h) = false := by simp [t1]
      have HR := Lib.hid (show sightB d e = false from by simp [sightB, t1])
      clear t1
      go_wp2_with fail
      go_ret
      exact ⟨by rw [HR.out]; rfl, K0.out⟩
  · have p0 : (d.w == e.w) = false := by simp [t0]
    have q0 : decide (d.w = e.w) = false := by simp [t0]
    have HR := Lib.hid (show sightB d e = false from by simp [sightB, t0])
    clear t0
    go_wp2_with fail
    go_ret
    exact ⟨by rw [HR.out]; rfl, K0.out⟩
attribute [local go_sem ↓] ld48 ldv48 ldx48
attribute [local go_sem] ptrBlock_some
/-- Lists of layers compared. -/
def Sames (ls : List Loc) : Prop := ∀ (ms : List Loc) (h g : Hd) (w : World), ReadR w 48 19 h (flat ls) → ReadR w 48 19 g (flat ms) → Rep w ls → Rep w ms →
  Calls Try.prog 25 #[.slice h.a h.n h.c, .slice g.a g.n g.c, .func (.func 26) #[] #[]] w fun en w' => en = .returned (.bool (sameP (er ls) (er ms))) ∧ Keeps none' w w'
set_option maxRecDepth 100000 in
set_option maxHeartbeats 6400000 in
theorem same26 (d e : Dat) (p m q k p' m' q' k' : Hd) (kids kids' : List Loc) (HK : Sames kids) (w : World) (H : Rep w [.mk d p m q k kids]) (G : Rep w [.mk e p' m' q' k' kids']) :
    Calls Try.prog 26 #[.agg (cells19 d p m q k).toArray, .agg (cells19 e p' m' q' k').toArray] w fun en w' => en = .returned (.bool (datB d e && sameP (er kids) (er kids'))) ∧ Keeps none' w w' := by
  unfold Rep at H G
  rw [All] at H G
  obtain ⟨h1, h2, h3, h4, h5, -⟩ := H
  obtain ⟨g1, g2, g3, g4, g5, -⟩ := G
  have HP := Lib.hid (And.intro h1 g1)
  have HM := Lib.hid (And.intro h2 g2)
  have HQ := Lib.hid (And.intro h3 g3)
  have C25 := Lib.hid (fun w' (kk : Keeps none' w w') => HK kids' k k' w' (h4.keep kk (fun _ _ h => h)) (g4.keep kk (fun _ _ h => h)) (show Rep w' kids from Rep.later h5 kk) (show Rep w' kids' from Rep.later g5 kk))
  clear h1 h2 h3 h4 h5 g1 g2 g3 g4 g5 HK
  have K0 := Lib.hid (((Keeps.refl none' w).alloc (.cells (cells19 d p m q k).toArray 48)).alloc (.cells (cells19 e p' m' q' k').toArray 48))
  have A0 := Lib.hid ((Lb.new w d p m q k).later ((Keeps.refl none' _).alloc (.cells (cells19 e p' m' q' k').toArray 48)))
  have B0 := Lib.hid (Lb.new (w.alloc (.cells (cells19 d p m q k).toArray 48)) e p' m' q' k')
  have hs1 : (w.alloc (.cells (cells19 d p m q k).toArray 48)).heap.size = w.heap.size + 1 := by simp
  rw [hs1] at B0
  clear hs1
  have CS := fun w' (kk : Keeps none' w w') => sight43 d e p m q k p' m' q' k' w' (HP.out.1.keep kk (fun _ _ h => h)) (HP.out.2.keep kk (fun _ _ h => h))
  obtain ⟨X, hX⟩ : ∃ X, X = (cells19 d p m q k).toArray := ⟨_, rfl⟩
  obtain ⟨Y, hY⟩ : ∃ Y, Y = (cells19 e p' m' q' k').toArray := ⟨_, rfl⟩
  rw [← hX, ← hY]
  rw [← hX] at B0
  rw [← hX, ← hY] at K0 A0 CS
  rw [← hY] at B0
  have RA := Lib.hid (show ((w.alloc (.cells X 48)).alloc (.cells Y 48)).heap[w.heap.size]? = some (.cells X 48 (0, 0)) from by have h := A0.out; unfold Lb at h; rw [← hX] at h; exact h)
  have RB := Lib.hid (show ((w.alloc (.cells X 48)).alloc (.cells Y 48)).heap[w.heap.size + 1]? = some (.cells Y 48 (0, 0)) from by have h := B0.out; unfold Lb at h; rw [← hY] at h; exact h)
  have r1 : Row48 ((w.alloc (.cells X 48)).alloc (.cells Y 48)) w.heap.size := ⟨X, RA.out, by rw [hX]; rfl⟩
  have r2 : rowAt ((w.alloc (.cells X 48)).alloc (.cells Y 48)) w.heap.size = X := by unfold rowAt; rw [RA.out]
  have r3 : Row48 ((w.alloc (.cells X 48)).alloc (.cells Y 48)) (w.heap.size + 1) := ⟨Y, RB.out, by rw [hY]; rfl⟩
  have r4 : rowAt ((w.alloc (.cells X 48)).alloc (.cells Y 48)) (w.heap.size + 1) = Y := by unfold rowAt; rw [RB.out]
  clear hX hY RA RB
  have a0 := A0.out.c0
  have b0 := B0.out.c0
  have a1 := A0.out.c1
  have b1 := B0.out.c1
  have a2 := A0.out.c2
  have b2 := B0.out.c2
  have a3 := A0.out.c3
  have b3 := B0.out.c3
  have a4 := A0.out.c4
  have b4 := B0.out.c4
  go_enter Try.func26, Try.ntmps26
  by_cases t0 : d.id = e.id
  · have p0 : (d.id == e.id) = true := by simp [t0]
    have q0 : decide (d.id = e.id) = true := by simp [t0]
    have T0 := Lib.hid t0
    clear t0
    by_cases t1 : d.kind = e.kind
    · have p1 : (d.kind == e.kind) = true := by simp [t1]
      have q1 : decide (d.kind = e.kind) = true := by simp [t1]
      have T1 := Lib.hid t1
      clear t1
      by_cases t2 : d.hid = e.hid
      · have p2 : (d.hid == e.hid) = true := by simp [t2]
        have q2 : decide (d.hid = e.hid) = true := by simp [t2]
        have T2 := Lib.hid t2
        clear t2
        by_cases t3 : d.op = e.op
        · have p3 : (d.op == e.op) = true := by simp [t3]
          have q3 : decide (d.op = e.op) = true := by simp [t3]
          have T3 := Lib.hid t3
          clear t3
          by_cases t4 : d.mode = e.mode
          · have p4 : (d.mode == e.mode) = true := by simp [t4]
            have q4 : decide (d.mode = e.mode) = true := by simp [t4]
            have T4 := Lib.hid t4
            clear t4
            cases t5 : sightB d e with
            | true =>
              have C43 := Lib.hid (CS _ K0.out)
              rw [t5] at C43
              have T5 := Lib.hid t5
              clear t5
              cases t6 : decide (d.mask = e.mask) with
              | true =>
                have c44 := fun w' (kk : Keeps none' w w') => equal44 m m' d.mask e.mask w' (HM.out.1.keep kk (fun _ _ h => h)) (HM.out.2.keep kk (fun _ _ h => h))
                rw [t6] at c44
                have C44 := Lib.hid c44
                clear c44
                have T6 := Lib.hid t6
                clear t6
                by_cases t7 : d.table = e.table
                · have p7 : (d.table == e.table) = true := by simp [t7]
                  have q7 : decide (d.table = e.table) = true := by simp [t7]
                  have T7 := Lib.hid t7
                  clear t7
                  cases t8 : decide (d.pars = e.pars) with
                  | true =>
                    have c45 := fun w' (kk : Keeps none' w w') => equal45 q q' d.pars e.pars w' (HQ.out.1.keep kk (fun _ _ h => h)) (HQ.out.2.keep kk (fun _ _ h => h))
                    rw [t8] at c45
                    have C45 := Lib.hid c45
                    clear c45
                    have T8 := Lib.hid t8
                    clear t8
                    have HR := Lib.hid (show (datB d e && sameP (er kids) (er kids')) = sameP (er kids) (er kids') from by
                      have h6 : d.mask = e.mask := of_decide_eq_true T6.out
                      have h8 : d.pars = e.pars := of_decide_eq_true T8.out
                      simp [datB, T0.out, T1.out, T2.out, T3.out, T4.out, T5.out, h6, T7.out, h8])
                    go_wp2_with (first | ((with_reducible refine C43.out.mono ?_); rintro en w2 ⟨rfl, hk⟩; have K2 := Lib.hid (K0.out.next hk); have A2 := Lib.hid (A0.out.later hk); have B2 := Lib.hid (B0.out.later hk); have x8 := A2.out.c8; have y8 := B2.out.c8; clear hk) | ((with_reducible refine (C44.out w2 K2.out).mono ?_); rintro en w3 ⟨rfl, hk⟩; have K3 := Lib.hid (K2.out.next hk); have A3 := Lib.hid (A2.out.later hk); have B3 := Lib.hid (B2.out.later hk); have x16 := A3.out.c16; have y16 := B3.out.c16; have x17 := A3.out.c17; have y17 := B3.out.c17; clear hk) | ((with_reducible refine (C45.out w3 K3.out).mono ?_); rintro en w4 ⟨rfl, hk⟩; have K4 := Lib.hid (K3.out.next hk); have A4 := Lib.hid (A3.out.later hk); have B4 := Lib.hid (B3.out.later hk); have x18 := A4.out.c18; have y18 := B4.out.c18; clear hk) | ((with_reducible refine (C25.out w4 K4.out).mono ?_); rintro en w5 ⟨rfl, hk⟩; have K5 := Lib.hid (K4.out.next hk); clear hk))
                    go_ret
                    exact ⟨by rw [HR.out]; rfl, K5.out⟩
                  | false =>
                    have c45 := fun w' (kk : Keeps none' w w') => equal45 q q' d.pars e.pars w' (HQ.out.1.keep kk (fun _ _ h => h)) (HQ.out.2.keep kk (fun _ _ h => h))
                    rw [t8] at c45
                    have C45 := Lib.hid c45
                    clear c45
                    have HR := Lib.hid (show (datB d e && sameP (er kids) (er kids')) = false from by simp [datB, t8])
                    clear t8
                    go_wp2_with (first | ((with_reducible refine C43.out.mono ?_); rintro en w2 ⟨rfl, hk⟩; have K2 := Lib.hid (K0.out.next hk); have A2 := Lib.hid (A0.out.later hk); have B2 := Lib.hid (B0.out.later hk); have x8 := A2.out.c8; have y8 := B2.out.c8; clear hk) | ((with_reducible refine (C44.out w2 K2.out).mono ?_); rintro en w3 ⟨rfl, hk⟩; have K3 := Lib.hid (K2.out.next hk); have A3 := Lib.hid (A2.out.later hk); have B3 := Lib.hid (B2.out.later hk); have x16 := A3.out.c16; have y16 := B3.out.c16; have x17 := A3.out.c17; have y17 := B3.out.c17; clear hk) | ((with_reducible refine (C45.out w3 K3.out).mono ?_); rintro en w4 ⟨rfl, hk⟩; have K4 := Lib.hid (K3.out.next hk); have A4 := Lib.hid (A3.out.later hk); have B4 := Lib.hid (B3.out.later hk); have x18 := A4.out.c18; have y18 := B4.out.c18; clear hk))
                    go_ret
                    exact ⟨by rw [HR.out]; rfl, K4.out⟩
                · have p7 : (d.table == e.table) = false := by simp [t7]
                  have q7 : decide (d.table = e.table) = false := by simp [t7]
                  have HR := Lib.hid (show (datB d e && sameP (er kids) (er kids')) = false from by simp [datB, t7])
                  clear t7
                  go_wp2_with (first | ((with_reducible refine C43.out.mono ?_); rintro en w2 ⟨rfl, hk⟩; have K2 := Lib.hid (K0.out.next hk); have A2 := Lib.hid (A0.out.later hk); have B2 := Lib.hid (B0.out.later hk); have x8 := A2.out.c8; have y8 := B2.out.c8; clear hk) | ((with_reducible refine (C44.out w2 K2.out).mono ?_); rintro en w3 ⟨rfl, hk⟩; have K3 := Lib.hid (K2.out.next hk); have A3 := Lib.hid (A2.out.later hk); have B3 := Lib.hid (B2.out.later hk); have x16 := A3.out.c16; have y16 := B3.out.c16; have x17 := A3.out.c17; have y17 := B3.out.c17; clear hk))
                  go_ret
                  exact ⟨by rw [HR.out]; rfl, K3.out⟩
              | false =>
                have c44 := fun w' (kk : Keeps none' w w') => equal44 m m' d.mask e.mask w' (HM.out.1.keep kk (fun _ _ h => h)) (HM.out.2.keep kk (fun _ _ h => h))
                rw [t6] at c44
                have C44 := Lib.hid c44
                clear c44
                have HR := Lib.hid (show (datB d e && sameP (er kids) (er kids')) = false from by simp [datB, t6])
                clear t6
                go_wp2_with (first | ((with_reducible refine C43.out.mono ?_); rintro en w2 ⟨rfl, hk⟩; have K2 := Lib.hid (K0.out.next hk); have A2 := Lib.hid (A0.out.later hk); have B2 := Lib.hid (B0.out.later hk); have x8 := A2.out.c8; have y8 := B2.out.c8; clear hk) | ((with_reducible refine (C44.out w2 K2.out).mono ?_); rintro en w3 ⟨rfl, hk⟩; have K3 := Lib.hid (K2.out.next hk); have A3 := Lib.hid (A2.out.later hk); have B3 := Lib.hid (B2.out.later hk); have x16 := A3.out.c16; have y16 := B3.out.c16; have x17 := A3.out.c17; have y17 := B3.out.c17; clear hk))
                go_ret
                exact ⟨by rw [HR.out]; rfl, K3.out⟩
            | false =>
              have C43 := Lib.hid (CS _ K0.out)
              rw [t5] at C43
              have HR := Lib.hid (show (datB d e && sameP (er kids) (er kids')) = false from by simp [datB, t5])
              clear t5
              go_wp2_with (first | ((with_reducible refine C43.out.mono ?_); rintro en w2 ⟨rfl, hk⟩; have K2 := Lib.hid (K0.out.next hk); have A2 := Lib.hid (A0.out.later hk); have B2 := Lib.hid (B0.out.later hk); have x8 := A2.out.c8; have y8 := B2.out.c8; clear hk))
              go_ret
              exact ⟨by rw [HR.out]; rfl, K2.out⟩
          · have p4 : (d.mode == e.mode) = false := by simp [t4]
            have q4 : decide (d.mode = e.mode) = false := by simp [t4]
            have HR := Lib.hid (show (datB d e && sameP (er kids) (er kids')) = false from by simp [datB, t4])
            clear t4
            go_wp2_with fail
            go_ret
            exact ⟨by rw [HR.out]; rfl, K0.out⟩
        · have p3 : (d.op == e.op) = false := by simp [t3]
          have q3 : decide (d.op = e.op) = false := by simp [t3]
          have HR := Lib.hid (show (datB d e && sameP (er kids) (er kids')) = false from by simp [datB, t3])
          clear t3
          go_wp2_with fail
          go_ret
          exact ⟨by rw [HR.out]; rfl, K0.out⟩
      · have p2 : (d.hid == e.hid) = false := by simp [t2]
        have q2 : decide (d.hid = e.hid) = false := by simp [t2]
        have HR := Lib.hid (show (datB d e && sameP (er kids) (er kids')) = false from by simp [datB, t2])
        clear t2
        go_wp2_with fail
        go_ret
        exact ⟨by rw [HR.out]; rfl, K0.out⟩
    · have p1 : (d.kind == e.kind) = false := by simp [t1]
      have q1 : decide (d.kind = e.kind) = false := by simp [t1]
      have HR := Lib.hid (show (datB d e && sameP (er kids) (er kids')) = false from by simp [datB, t1])
      clear t1
      go_wp2_with fail
      go_ret
      exact ⟨by rw [HR.out]; rfl, K0.out⟩
  · have p0 : (d.id == e.id) = false := by simp [t0]
    have q0 : decide (d.id = e.id) = false := by simp [t0]
    have HR := Lib.hid (show (datB d e && sameP (er kids) (er kids')) = false from by simp [datB, t0])
    clear t0
    go_wp2_with fail
    go_ret
    exact ⟨by rw [HR.out]; rfl, K0.out⟩
end Go.Proofs.Ytfcpbpfemmdklaa
