/- likeEdit: an edit and itself. -/
import Derived.Test.YtcdhpidglchinaaX
import Derived.Test.YtcdhpidglchinaaSA
import Derived.Test.YtcdhpidglchinaaQ
namespace Go.Proofs.Ytcdhpidglchinaa
open Go.RowKit Go.Lib Pk
set_option linter.unusedSimpArgs false
set_option linter.unusedVariables false

theorem eq6 (a b c d e f : Int) (w : World) : (Op.equalIn 10000 37 (.agg #[.int .i64 a, .int .i64 b, .int .i64 c, .int .i64 d, .int .i64 e, .int .i64 f]) (.agg #[.int .i64 a, .int .i64 b, .int .i64 c, .int .i64 d, .int .i64 e, .int .i64 f])).run Try.prog w = .ok true w := by
  have u3 := Try.underlying3
  have a3 := Try.isAgg3
  have z3 := Try.sizeOf3
  rw [show (10000 : Nat) = 9999 + 1 from rfl, Op.equalIn]
  simp only [Sem.run_bind, run_underlying Try.underlying37, Result.andThen_ok]
  simp only [Std.Legacy.Range.forIn_eq_forIn_range', Std.Legacy.Range.size, Nat.sub_zero, Nat.add_sub_cancel, Nat.div_one, List.range'_succ, List.range'_zero, List.forIn_cons, List.forIn_nil]
  go_simp
  try simp
set_option maxRecDepth 100000 in
set_option maxHeartbeats 3200000 in
theorem likeEdit_yes (w : World) (e : PEd) (p s q p' s' q' : Hd) (hi : EdIn w e p s q) (hj : EdIn w e p' s' q') (n1 : e.p.length ≤ 100000) (n2 : e.s.length ≤ 100000) (n3 : e.q.length ≤ 100000) :
    Calls Try.prog 13 #[edV e p s q, edV e p' s' q'] w (Yes w) := by
  obtain ⟨E, hEE⟩ : ∃ E, E = w.heap.size := ⟨_, rfl⟩
  obtain ⟨F, hFF⟩ : ∃ F, F = w.heap.size + 1 := ⟨_, rfl⟩
  obtain ⟨EV, hEV⟩ : ∃ EV, EV = (edCells e p s q).toArray := ⟨_, rfl⟩
  obtain ⟨FV, hFV⟩ : ∃ FV, FV = (edCells e p' s' q').toArray := ⟨_, rfl⟩
  obtain ⟨u, hu⟩ : ∃ u, u = (w.alloc (.cells EV 27)).alloc (.cells FV 39) := ⟨_, rfl⟩
  have K0 : Keeps none' w u := by rw [hu]; exact ((Keeps.refl none' w).alloc _).alloc _
  have hsz : u.heap.size = w.heap.size + 2 := by rw [hu]; simp
  have hE : Eb u 27 E e p s q := by
    rw [hu, hEE, hEV]
    exact (Below.heap_alloc (w.alloc (.cells (edCells e p s q).toArray 27)) _ _ (by simp)).trans (heap_alloc_new w _)
  have hF : Eb u 39 F e p' s' q' := by
    have := heap_alloc_new (w.alloc (.cells EV 27)) (.cells (edCells e p' s' q').toArray 39)
    rw [hu, hFF, hFV]
    unfold Eb
    simpa using this
  have hs : e.s.length = s.n := by have := hi.s.len; rw [pts_length] at this; omega
  have hs' : e.s.length = s'.n := by have := hj.s.len; rw [pts_length] at this; omega
  have C1 := Lib.hid (show Calls Try.prog 12 #[.agg (edCells e p s q).toArray] u (MadeE u e p q) from MEdit_any u e p s q (hi.keep K0 (fun _ _ x => x)) (by omega))
  have SP := Lib.hid (fun (w1 : World) (k : Keeps none' w w1) => same_yes w1 p p' e.p (hi.p.later k) (hj.p.later k) (by omega))
  have SQ := Lib.hid (fun (w1 : World) (k : Keeps none' w w1) => same_yes w1 q q' e.q (hi.q.later k) (hj.q.later k) (by omega))
  have PT := Lib.hid (fun (w1 : World) (k : Keeps none' w w1) => hj.s.later k)
  have HS := Lib.hid (And.intro hs hs')
  have hsn : s'.n ≤ 100000 := by omega
  have sz := szEd
  have szR := szREd
  have ZB := Lib.hid (fun (w1 : World) => heap_alloc_new w1 (.cells #[.int .i64 0, .int .i64 0, .int .i64 0, .int .i64 0, .int .i64 0, .int .i64 0, .int .i64 0, .int .i64 0, .int .i64 0, .int .i64 0, .slice none 0 0, .slice none 0 0, .int .i64 0, .int .i64 0, .int .i64 0, .int .i64 0, .int .i64 0, .int .i64 0, .slice none 0 0] 39))
  have ST := Lib.hid (fun (w1 w2 : World) (e : PEd) (a b c : Hd) (hw : w2 = (w1.alloc (.cells #[.int .i64 0, .int .i64 0, .int .i64 0, .int .i64 0, .int .i64 0, .int .i64 0, .int .i64 0, .int .i64 0, .int .i64 0, .int .i64 0, .slice none 0 0, .slice none 0 0, .int .i64 0, .int .i64 0, .int .i64 0, .int .i64 0, .int .i64 0, .int .i64 0, .slice none 0 0] 39)).setRow w1.heap.size (edCells e a b c).toArray) => show Keeps none' w1 w2 ∧ Eb w2 39 w1.heap.size e a b c from by
    have hb : w2.heap[w1.heap.size]? = some (.cells (edCells e a b c).toArray 39 (0, 0)) := by rw [hw]; exact setRow_heap _ _ _ _ _ _ (heap_alloc_new w1 _)
    exact ⟨by rw [hw]; exact ((Keeps.refl none' w1).alloc _).trans (keeps_row _ _ _) (fun i hi x => by omega), hb⟩)
  have KK := Lib.hid (And.intro K0 (And.intro hE hF))
  have q6 := fun (w : World) => eq6 e.ma e.mb e.mc e.md e.me e.mf w
  unfold edV edCells
  have hEV2 : #[.int .i64 e.kind, .int .i64 e.id, .int .i64 e.to_, .int .i64 e.at_, .int .i64 e.n, .int .i64 e.m, .int .i64 e.x, .int .i64 e.y, .int .i64 e.w, .int .i64 e.h, .slice p.a p.n p.c, .slice s.a s.n s.c, .int .i64 e.ma, .int .i64 e.mb, .int .i64 e.mc, .int .i64 e.md, .int .i64 e.me, .int .i64 e.mf, .slice q.a q.n q.c] = EV := by rw [hEV]; rfl
  have hFV2 : #[.int .i64 e.kind, .int .i64 e.id, .int .i64 e.to_, .int .i64 e.at_, .int .i64 e.n, .int .i64 e.m, .int .i64 e.x, .int .i64 e.y, .int .i64 e.w, .int .i64 e.h, .slice p'.a p'.n p'.c, .slice s'.a s'.n s'.c, .int .i64 e.ma, .int .i64 e.mb, .int .i64 e.mc, .int .i64 e.md, .int .i64 e.me, .int .i64 e.mf, .slice q'.a q'.n q'.c] = FV := by rw [hFV]; rfl
  rw [show ([.int .i64 e.kind, .int .i64 e.id, .int .i64 e.to_, .int .i64 e.at_, .int .i64 e.n, .int .i64 e.m, .int .i64 e.x, .int .i64 e.y, .int .i64 e.w, .int .i64 e.h, .slice p.a p.n p.c, .slice s.a s.n s.c, .int .i64 e.ma, .int .i64 e.mb, .int .i64 e.mc, .int .i64 e.md, .int .i64 e.me, .int .i64 e.mf, .slice q.a q.n q.c] : List Value).toArray = EV from hEV2, show ([.int .i64 e.kind, .int .i64 e.id, .int .i64 e.to_, .int .i64 e.at_, .int .i64 e.n, .int .i64 e.m, .int .i64 e.x, .int .i64 e.y, .int .i64 e.w, .int .i64 e.h, .slice p'.a p'.n p'.c, .slice s'.a s'.n s'.c, .int .i64 e.ma, .int .i64 e.mb, .int .i64 e.mc, .int .i64 e.md, .int .i64 e.me, .int .i64 e.mf, .slice q'.a q'.n q'.c] : List Value).toArray = FV from hFV2]
  have HV := Lib.hid (And.intro hEV hFV)
  clear hi hj hs hs' hE hF K0 hEV2 hFV2 hEV hFV hsz n1 n2 n3
  go_enter Try.func13, Try.ntmps13
  go_upto_region 1 with (fail)
  rw [← hu, ← hFF, ← hEE]
  clear hu hFF hEE
  go_upto_region 2 with (first
    | (refine wpList_load_row rfl 27 _ rfl E rfl 27 (edCells e p s q).toArray (0, 0) _ KK.out.2.1 Try.underlying27 rfl (sz e p s q) ?_)
    | (go_at_call 12; ((with_reducible refine C1.out.mono ?_); rintro en w1 ⟨s2, rfl, i1, k1⟩; have I1 := Lib.hid i1; have K1 := Lib.hid (KK.out.1.next k1); have F1 := Lib.hid ((KK.out.2.2).keep k1 (fun x => x)); clear i1 k1))
    | (refine wpList_store_row rfl 39 _ _ rfl w1.heap.size (edCells e p s2 q).toArray rfl rfl 39 _ (ZB.out w1) (szR e p s2 q) rfl (ed_all _ _ _ _) ?_; obtain ⟨w2, hw⟩ : ∃ w2, w2 = (w1.alloc (.cells #[.int .i64 0, .int .i64 0, .int .i64 0, .int .i64 0, .int .i64 0, .int .i64 0, .int .i64 0, .int .i64 0, .int .i64 0, .int .i64 0, .slice none 0 0, .slice none 0 0, .int .i64 0, .int .i64 0, .int .i64 0, .int .i64 0, .int .i64 0, .int .i64 0, .slice none 0 0] 39)).setRow w1.heap.size (edCells e p s2 q).toArray := ⟨_, rfl⟩; rw [← hw]; obtain ⟨k2, b2⟩ := ST.out w1 w2 e p s2 q hw; have K2 := Lib.hid (K1.out.next k2); have X2 := Lib.hid b2; have F2 := Lib.hid ((F1.out).keep k2 (fun x => x)); have I2 := Lib.hid (I1.out.keep k2 (fun _ _ x => x)); clear hw k2 b2))
  obtain ⟨X, hX⟩ : ∃ X, X = w1.heap.size := ⟨_, rfl⟩
  rw [← hX] at X2
  rw [← hX]
  clear hX
  have ln : s2.n = s'.n := by
    have h1 := I2.out.s.len
    rw [pts_length] at h1
    have := HS.out.2
    omega
  have LN := Lib.hid ln
  clear ln
  obtain ⟨a2, m2, c2⟩ := s2
  have LN2 : m2 = s'.n := LN.out
  subst LN2
  clear LN
  have x0 := X2.out.c0
  have y0 := F2.out.c0
  have x1 := X2.out.c1
  have y1 := F2.out.c1
  have x2 := X2.out.c2
  have y2 := F2.out.c2
  have x3 := X2.out.c3
  have y3 := F2.out.c3
  have x4 := X2.out.c4
  have y4 := F2.out.c4
  have x5 := X2.out.c5
  have y5 := F2.out.c5
  have x6 := X2.out.c6
  have y6 := F2.out.c6
  have x7 := X2.out.c7
  have y7 := F2.out.c7
  have x8 := X2.out.c8
  have y8 := F2.out.c8
  have x9 := X2.out.c9
  have y9 := F2.out.c9
  have x10 := X2.out.c10
  have y10 := F2.out.c10
  have x11 := X2.out.c11
  have y11 := F2.out.c11
  have x12 := X2.out.c12
  have y12 := F2.out.c12
  have x13 := X2.out.c13
  have y13 := F2.out.c13
  have x14 := X2.out.c14
  have y14 := F2.out.c14
  have x15 := X2.out.c15
  have y15 := F2.out.c15
  have x16 := X2.out.c16
  have y16 := F2.out.c16
  have x17 := X2.out.c17
  have y17 := F2.out.c17
  have x18 := X2.out.c18
  have y18 := F2.out.c18
  go_upto_region 4 with (first
    | (go_at_call 22; ((with_reducible refine (SP.out _ K2.out).mono ?_); rintro en w3 ⟨rfl, hw3⟩; subst hw3))
    | (go_at_call 22; ((with_reducible refine (SQ.out _ K2.out).mono ?_); rintro en w3 ⟨rfl, hw3⟩; subst hw3)))
  clear x0 y0 x1 y1 x2 y2 x3 y3 x4 y4 x5 y5 x6 y6 x7 y7 x8 y8 x9 y9 x10 y10 x12 y12 x13 y13 x14 y14 x15 y15 x16 y16 x17 y17 x18 y18
  go_wp2_with fail
  go_loopw [113] (fun v wr => ∃ k : Nat, k ≤ s'.n ∧ v = .int .i64 k ∧ Keeps none' w2 wr) (fun v _ => s'.n - (intOf v).toNat)
  case atStart => exact ⟨0, Nat.zero_le _, rfl, Keeps.refl _ _⟩
  case round =>
    obtain ⟨k, hk, rfl, hkr⟩ := hrel
    have KR := Lib.hid hkr
    by_cases hlt : k < s'.n
    · obtain ⟨pt, hx⟩ : ∃ x, e.s[k]? = some x := ⟨_, List.getElem?_eq_getElem (by have := HS.out.2; omega)⟩
      obtain ⟨b, off, eb, _, d0, d1⟩ := (I2.out.s.later hkr).two hx
      obtain ⟨b', off', eb', _, d0', d1'⟩ := (PT.out wr (K2.out.next hkr)).two hx
      obtain ⟨x, y⟩ := pt
      simp only at d0 d1 d0' d1' eb
      subst eb
      have ka := (Keeps.refl none' wr).alloc (.cells #[.int .i64 x, .int .i64 y] 59)
      have yy := ka.cell (hkr.cell y11)
      rw [eb'] at yy
      have g0 := ka.cell d0'
      have g1 := ka.cell d1'
      have h0 : (wr.alloc (.cells #[.int .i64 x, .int .i64 y] 59)).cell? ⟨wr.heap.size, 0, none⟩ = some (.int .i64 x) := cell_at (i := 0) (heap_alloc_new wr _) rfl
      have h1 : (wr.alloc (.cells #[.int .i64 x, .int .i64 y] 59)).cell? ⟨wr.heap.size, 1, none⟩ = some (.int .i64 y) := cell_at (i := 1) (heap_alloc_new wr _) rfl
      have KA := Lib.hid (hkr.next ka)
      clear hx eb' hkr ka
      go_upto_region 7 with (fail)
      generalize wr.alloc (.cells #[.int .i64 x, .int .i64 y] 59) = wa at *
      go_quiet (fail)
      go_wp2_with fail
      go_roundw
      case rel => exact ⟨k + 1, hlt, by go_num, KA.out.drewN _⟩
      case measure => simp [intOf] <;> omega
    · go_wp2_with fail
      go_ret
      exact ⟨rfl, K2.out.next KR.out⟩
end Go.Proofs.Ytcdhpidglchinaa
