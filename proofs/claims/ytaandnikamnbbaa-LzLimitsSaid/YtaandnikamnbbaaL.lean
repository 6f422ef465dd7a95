/- The walk of backs. -/
import Derived.Test.YtaandnikamnbbaaK
namespace Go.Proofs.Ytaandnikamnbbaa
open Go.RowKit
set_option linter.unusedVariables false

theorem drop_three {ys : List Nat} {p : Nat} (h : p + 2 < ys.length) : ys.drop p = ys.getD p 0 :: ys.getD (p + 1) 0 :: ys.getD (p + 2) 0 :: ys.drop (p + 3) := by
  have e : ∀ k, k < ys.length → ys.drop k = ys.getD k 0 :: ys.drop (k + 1) := fun k hk => by
    rw [List.drop_eq_getElem_cons hk, List.getD_eq_getElem?_getD, List.getElem?_eq_getElem hk]; rfl
  rw [e p (by omega), e (p + 1) (by omega), e (p + 2) h]
theorem common_three {ys : List Nat} {p q : Nat} (hp : p + 2 < ys.length) (hq : q + 2 < ys.length) : (common ((ys.drop p).take 3) (ys.drop q) = 3) ↔ Lz.same3 ys p q = true := by
  rw [drop_three hp, drop_three hq, Lz.same3_iff]
  simp only [List.take_succ_cons, List.take_zero, common]
  split
  · split
    · split <;> simp_all
    · simp_all
  · simp_all
/-- Three bytes of a slice, and the rest from a place on. -/
theorem Arg.three {w : World} {b off n c p : Nat} {ys : List Nat} (h : Arg w (some ⟨b, off, none⟩) n c ys) (hp : p + 3 ≤ n) : Bytes w (some ⟨b, off + p, none⟩) 3 ((ys.drop p).take 3) := by
  obtain ⟨⟨h1, h2, h3⟩, _⟩ := h
  refine ⟨by rw [List.length_take, List.length_drop]; omega, fun y hy => h2 y (List.mem_of_mem_drop (List.mem_of_mem_take hy)), fun _ => ⟨b, off + p, rfl, fun j y hj => ?_⟩⟩
  obtain ⟨b', off', e, hc⟩ := h3 (by omega)
  cases e
  rw [List.getElem?_take] at hj
  split at hj
  · rw [List.getElem?_drop] at hj
    rw [Nat.add_assoc]
    exact hc _ _ hj
  · cases hj
theorem Arg.rest {w : World} {b off n c p : Nat} {ys : List Nat} (h : Arg w (some ⟨b, off, none⟩) n c ys) (hp : p ≤ n) : Bytes w (some ⟨b, off + p, none⟩) (n - p) (ys.drop p) := by
  obtain ⟨⟨h1, h2, h3⟩, _⟩ := h
  refine ⟨by rw [List.length_drop]; omega, fun y hy => h2 y (List.mem_of_mem_drop hy), fun _ => ⟨b, off + p, rfl, fun j y hj => ?_⟩⟩
  obtain ⟨b', off', e, hc⟩ := h3 (by omega)
  cases e
  rw [List.getElem?_drop] at hj
  rw [Nat.add_assoc]
  exact hc _ _ hj
theorem backs_lt {ys : List Nat} (hy : ∀ y ∈ ys, y < 256) (hn : ys.length ≤ 16777216) : ∀ z ∈ Lz.backs ys, z < 2147483648 := by
  intro z hz
  obtain ⟨t, ht⟩ := List.getElem?_of_mem hz
  have h := Lz.backs_good hy t
  rw [List.getD_eq_getElem?_getD, ht, Option.getD_some] at h
  rcases h with h | h <;> omega

set_option maxRecDepth 100000 in
set_option maxHeartbeats 1600000 in
theorem backs_any (w : World) (a : Option Addr) (n c : Nat) (ys : List Nat) (h : Arg w a n c ys) (hn : n ≤ 16777216) :
    Calls Try.prog 15 #[.slice a n c] w (Sorted w (Lz.backs ys) n) := by
  have hyl : ys.length = n := h.1.1
  have hy256 := h.1.2.1
  obtain ⟨S, hS⟩ : ∃ S, S = Lz.stage ys 3 := ⟨_, rfl⟩
  obtain ⟨m, hm⟩ : ∃ m, m = n - 2 := ⟨_, rfl⟩
  have hSl : S.length = m := by rw [hS, Lz.stage_length hy256, hyl, hm]
  have hSm : ∀ i, i < m → S[i]? = some (S.getD i 0) ∧ S.getD i 0 + 2 < n := fun i hi => by
    rw [hS]
    have := Lz.stage_get hy256 (i := i) (by rw [← hS, hSl]; exact hi)
    rwa [hyl] at this
  have hSs : ∀ i, i + 1 < m → Lz.same3 ys (S.getD i 0) (S.getD (i + 1) 0) = true → S.getD i 0 < S.getD (i + 1) 0 := fun i hi hs => by
    rw [hS] at hs ⊢
    exact Lz.stage_lt hy256 (i := i) (by rw [← hS, hSl]; exact hi) hs
  have hmk := run_make_row' (P := Try.prog) 37 21 (.int .i32 0) 4 Try.underlying37 info21 rfl .i64 .i64 n (by omega) (by omega)
  have hmw := hmk w
  have b0 : Below w.heap.size w (w.alloc (.cells (madeCells #[.int .i32 0] n) 21)) := (Below.refl _ _).alloc (Nat.le_refl _) _
  have CS := sortedPlaces_any (w.alloc (.cells (madeCells #[.int .i32 0] n) 21)) a n c ys (h.below b0) hn
  rw [← hS, ← hm] at CS
  have CS := Lib.hid CS
  have HM := Lib.hid (made_row w n)
  have HB0 := Lib.hid b0
  have HA := Lib.hid h
  have HY := Lib.hid (And.intro hy256 hyl)
  have HSL := Lib.hid (And.intro hSl hS)
  have HSM := Lib.hid (And.intro hSm hSs)
  have hmn : m ≤ n := by omega
  have hcap : n ≤ c := h.2.1
  have hz0 : m = 0 ∨ m + 2 = n := by omega
  clear h hyl hy256 hS hSl hSm hSs hm hmk b0
  go_enter Try.func15, Try.ntmps15
  go_wp2_with fail
  clear hmw
  refine CS.out.mono ?_
  rintro e w1 ⟨gS, rfl, hpS, hgS, hb1⟩
  have hsz : (w.alloc (.cells (madeCells #[.int .i32 0] n) 21)).heap.size = w.heap.size + 1 := by simp
  have hr0 : RowK 21 .i32 w1 w.heap.size n (fun j => (Lz.backsTo ys S 1).getD j 0) := by
    refine (HM.out.keep (hb1.block _ (by rw [hsz]; omega))).congr (fun j hj => ?_)
    have e : Lz.backsTo ys S 1 = List.replicate ys.length 0 := by rw [Lz.backsTo, if_pos rfl]; rfl
    rw [e, List.getD_eq_getElem?_getD, List.getElem?_replicate, HY.out.2, if_pos hj]; rfl
  have hbw := below_more HB0.out hb1 (Nat.le_refl _)
  have hgw : w.heap.size ≠ gS := by rw [hsz] at hgS; omega
  have HR := Lib.hid hr0
  have HB := Lib.hid hbw
  have HPS := Lib.hid hpS
  clear hr0 hbw hpS hb1 hgS hsz HM HB0 CS
  go_wp2_with fail
  go_loopw [5] (fun cnt wr => ∃ i : Nat, 1 ≤ i ∧ (i = 1 ∨ i ≤ m) ∧ cnt = .int .i64 i ∧ RowK 21 .i32 wr w.heap.size n (fun j => (Lz.backsTo ys S i).getD j 0) ∧ Places wr (some ⟨gS, 0, none⟩) m S ∧ Below w.heap.size w wr) (fun cnt _ => m - (intOf cnt).toNat)
  case atStart => exact ⟨1, by omega, Or.inl rfl, rfl, HR.out, HPS.out, HB.out⟩
  case round =>
    clear HR HPS HB
    obtain ⟨i, hi1, hi, rfl, hr, hps, hb⟩ := hrel
    by_cases hlt : i < m
    · obtain ⟨k, rfl⟩ : ∃ k, i = k + 1 := ⟨i - 1, by omega⟩
      obtain ⟨e1, hp2⟩ := HSM.out.1 k (by omega)
      obtain ⟨e2, hq2⟩ := HSM.out.1 (k + 1) hlt
      have hord := HSM.out.2 k hlt
      have hc1 := hps.2.2 (by omega)
      obtain ⟨gg, oo, eg, hcells⟩ := hc1
      cases eg
      have hcp := hcells _ _ e1
      have hcq := hcells _ _ e2
      have hstep : Lz.backsTo ys S (k + 1 + 1) = if Lz.same3 ys (S.getD k 0) (S.getD (k + 1) 0) = true then (Lz.backsTo ys S (k + 1)).set (S.getD (k + 1) 0) (S.getD (k + 1) 0 - S.getD k 0) else Lz.backsTo ys S (k + 1) := by
        rw [Lz.backsTo, if_neg (by omega), Nat.add_sub_cancel]
      generalize S.getD k 0 = p at *
      generalize S.getD (k + 1) 0 = q at *
      have HSTEP := Lib.hid (And.intro hstep hord)
      rw [Nat.zero_add] at hcp hcq
      have hk1 : IntKind.i64.wrap (((k + 1 : Nat) : Int) - 1) = (k : Int) := by rw [wrap_i64 _ (by omega) (by omega)]; omega
      have HR := Lib.hid (And.intro hr (And.intro hps hb))
      obtain ⟨i, hik⟩ : ∃ i, i = k + 1 := ⟨_, rfl⟩
      rw [← hik] at hcq hk1 hlt ⊢
      have HIK := Lib.hid hik
      clear hstep hord e1 e2 hcells hr hps hb hi hi1
      have hkm : k < m := by omega
      clear hik
      go_wp2_with fail
      go_quiet (fail)
      clear hk1 hcp hcq
      have Y : RowK 21 .i32 (wr.drewN nq) w.heap.size n (fun j => (Lz.backsTo ys S (k + 1)).getD j 0) ∧ Places (wr.drewN nq) (some ⟨gS, 0, none⟩) m S ∧ Below w.heap.size w (wr.drewN nq) :=
        ⟨HR.out.1.keep rfl, HR.out.2.1.later (fun _ _ => rfl), below_drewN HR.out.2.2 _⟩
      clear HR
      generalize wr.drewN nq = w3 at *
      obtain ⟨hr, hps, hb⟩ := Y
      have arg3 : Arg w3 a n c ys := HA.out.below hb
      obtain ⟨b, off, rfl⟩ : ∃ b off, a = some ⟨b, off, none⟩ := by
        obtain ⟨b, off, e, _⟩ := arg3.1.2.2 (by omega)
        exact ⟨b, off, e⟩
      obtain ⟨p3, hp3⟩ : ∃ p3, p3 = p + 3 := ⟨_, rfl⟩
      have CC := Lib.hid (fun nn => common_any (w3.drewN nn) (some ⟨b, off + p, none⟩) 3 (c - p) _ (some ⟨b, off + q, none⟩) (n - q) (c - q) _ ((arg3.three (by omega)).later (fun _ _ => rfl)) ((arg3.rest (by omega)).later (fun _ _ => rfl)) (by omega) (by omega))
      have HTH := Lib.hid (common_three (ys := ys) (p := p) (q := q) (by rw [HY.out.2]; exact hp2) (by rw [HY.out.2]; exact hq2))
      have hw1 : IntKind.i32.wrap ((p : Int) + 3) = (p3 : Int) := by rw [wrap_i32 _ (by omega) (by omega)]; omega
      have hd3 : p3 - p = 3 := by omega
      have hnp : ¬ c = p := by omega
      have hnq : ¬ c = q := by omega
      have hp3n : p3 ≤ n := by omega
      have hpp3 : p ≤ p3 := by omega
      have hpc : p3 ≤ c := by omega
      have hqn : q ≤ n := by omega
      have HR := Lib.hid (And.intro hr (And.intro hps hb))
      generalize common ((ys.drop p).take 3) (ys.drop q) = cv at *
      clear hr hps hb arg3 hp3
      go_wp2_with fail
      go_quiet ((go_at_call 18; exact Calls.quiet_of_same (CC.out _)))
      clear hw1 hd3 CC
      have Y : RowK 21 .i32 (w3.drewN nq) w.heap.size n (fun j => (Lz.backsTo ys S (k + 1)).getD j 0) ∧ Places (w3.drewN nq) (some ⟨gS, 0, none⟩) m S ∧ Below w.heap.size w (w3.drewN nq) :=
        ⟨HR.out.1.keep rfl, HR.out.2.1.later (fun _ _ => rfl), below_drewN HR.out.2.2 _⟩
      clear HR
      generalize w3.drewN nq = w4 at *
      obtain ⟨hr, hps, hb⟩ := Y
      have hst := HSTEP.out.1
      by_cases hcv : cv = 3
      · have hs := HTH.out.1 hcv
        rw [if_pos hs] at hst
        have hpq := HSTEP.out.2 hs
        subst hcv
        obtain ⟨d, hd⟩ : ∃ d, d = q - p := ⟨_, rfl⟩
        have hw1 : IntKind.i32.wrap ((q : Int) - (p : Int)) = (d : Int) := by rw [wrap_i32 _ (by omega) (by omega)]; omega
        obtain ⟨hc, hf⟩ := hr.cell (show q < n by omega)
        obtain ⟨old, hold⟩ : ∃ old, old = (Lz.backsTo ys S (k + 1)).getD q 0 := ⟨_, rfl⟩
        rw [← hold] at hc
        have hqn2 : q < n := by omega
        have X := Lib.hid (show RowK 21 .i32 (w4.setCell ⟨w.heap.size, q, none⟩ (.int .i32 (d : Nat))) w.heap.size n (fun j => (Lz.backsTo ys S (k + 1 + 1)).getD j 0) ∧ Places (w4.setCell ⟨w.heap.size, q, none⟩ (.int .i32 (d : Nat))) (some ⟨gS, 0, none⟩) m S ∧ Below w.heap.size w (w4.setCell ⟨w.heap.size, q, none⟩ (.int .i32 (d : Nat))) from by
          refine ⟨hr.set (fun j hj => ?_), ⟨hps.1, hps.2.1, fun hp => ?_⟩, below_set hb (Nat.le_refl _) _⟩
          · rw [hst, Lz.getD_set, ← hd]
            by_cases hjq : j = q
            · subst hjq
              rw [if_pos ⟨rfl, by rw [Lz.backsTo_length, HY.out.2]; exact hqn2⟩, if_pos rfl]
            · rw [if_neg (fun h => hjq h.1), if_neg hjq]
          · obtain ⟨b', off', e', hcells⟩ := hps.2.2 hp
            cases e'
            exact ⟨gS, 0, rfl, fun j y hj => (World.cell?_of_block (w := w4) (Below.heap_setCell _ _ _ _ (by simpa using fun h => hgw h.symm))).trans (hcells j y hj)⟩)
        rw [← HIK.out] at X
        clear hr hps hb hst hs hold hd HSTEP HTH
        go_wp2_with fail
        go_roundw
        case rel => exact ⟨i + 1, by omega, Or.inr hlt, by go_num, X.out.1, X.out.2.1, X.out.2.2⟩
        case measure => simp [intOf]; omega
      · have hs : ¬ Lz.same3 ys p q = true := fun h => hcv (HTH.out.2 h)
        rw [if_neg hs] at hst
        have u1 : ((cv : Int) == 3) = false := by simp; omega
        have X := Lib.hid (show RowK 21 .i32 w4 w.heap.size n (fun j => (Lz.backsTo ys S (k + 1 + 1)).getD j 0) ∧ Places w4 (some ⟨gS, 0, none⟩) m S ∧ Below w.heap.size w w4 from by
          rw [hst]; exact ⟨hr, hps, hb⟩)
        rw [← HIK.out] at X
        clear hr hps hb hst hs HSTEP HTH
        go_wp2_with fail
        go_roundw
        case rel => exact ⟨i + 1, by omega, Or.inr hlt, by go_num, X.out.1, X.out.2.1, X.out.2.2⟩
        case measure => simp [intOf]; omega
    · have hend : Lz.backsTo ys S i = Lz.backs ys := by
        unfold Lz.backs
        rw [← HSL.out.2, HSL.out.1]
        rcases hi with rfl | hi
        · rcases Nat.eq_zero_or_pos m with h0 | h0
          · have e : Lz.backsTo ys S 1 = Lz.backsTo ys S 0 := if_pos rfl
            rw [h0, e]
          · rw [show m = 1 by omega]
        · rw [show i = m by omega]
      have X := Lib.hid (show Sorted w (Lz.backs ys) n (.returned (.slice (some ⟨w.heap.size, 0, none⟩) n n)) wr from by
        rw [hend] at hr
        refine ⟨_, rfl, hr.places (by rw [Lz.backs_length, HY.out.2]) (backs_lt HY.out.1 (by rw [HY.out.2]; exact hn)) (fun j hj => ?_), Nat.le_refl _, hb⟩
        rw [List.getD_eq_getElem?_getD, List.getElem?_eq_getElem (by rw [Lz.backs_length, HY.out.2]; exact hj)]
        rfl)
      have hge : ¬ i < m := hlt
      clear hr hps hb hend hi
      go_wp2_with fail
      go_ret
      exact X.out
end Go.Proofs.Ytaandnikamnbbaa
