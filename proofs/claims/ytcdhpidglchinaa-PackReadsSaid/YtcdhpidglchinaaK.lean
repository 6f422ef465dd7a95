/- getList of points. -/
import Derived.Test.YtcdhpidglchinaaJ
namespace Go.Proofs.Ytcdhpidglchinaa
open Go.RowKit Go.Lib Pk
set_option linter.unusedSimpArgs false
set_option linter.unusedVariables false

set_option maxHeartbeats 1600000 in
theorem getPts_any (w : World) (Q P : Nat) (s : St) (h : Rd w Q P s) (hl : s.ys.length ≤ 1000000) :
    Calls Try.prog 33 #[.pointer (some ⟨P, 0, none⟩), .func (.func 34) #[.pointer (some ⟨P, 0, none⟩)] #[]] w (GotL w Q P 60 2 (pts (getL getPt s).1) (getL getPt s).2) := by
  have C1 := Lib.hid (rcount_any w Q P s h hl)
  have hfit := count_fits (s := s)
  obtain ⟨n, hn⟩ : ∃ n, n = (count s).1 := ⟨_, rfl⟩
  rw [← hn] at C1 hfit
  have hn2 : n ≤ 1000000 := by omega
  have HN := Lib.hid (And.intro hn (And.intro hl h.lt))
  have O0 := Lib.hid (onlist0 getPt s)
  obtain ⟨i0, hi, hz0, hz1, hz2⟩ := info_parts infoPt
  clear hfit hl h hn
  go_enter Try.func33, Try.ntmps33
  go_wp2_with (go_at_call 40; ((with_reducible refine C1.out.mono ?_); rintro en w1 ⟨rfl, t1⟩; have T1 := Lib.hid t1; clear t1))
  go_loopw [5, 9] (fun v u wr => ∃ (k : Nat) (l : List (Int × Int)) (sk : St) (hd : Hd), k ≤ n ∧ u = .int .i64 k ∧ v = .slice hd.a hd.n hd.c ∧ hd.n = k ∧ wr.ownsRow w.heap.size 60 2 (.slice hd.a hd.n hd.c) hd.n (pts l) ∧ OnList getPt s k l sk ∧ (l = [] ∨ sk.f = 0) ∧ RNext w Q P sk wr) (fun _ u _ => n - (intOf u).toNat)
  case atStart => exact ⟨0, [], _, Hd.nil, Nat.zero_le _, rfl, rfl, rfl, ⟨rfl, .inl ⟨rfl, rfl⟩⟩, O0.out, Or.inl rfl, T1.out⟩
  case round =>
    obtain ⟨k, l, sk, ⟨a, m, c⟩, hk, rfl, rfl, hm, ho, hon, hz, ht⟩ := hrel
    simp only at hm
    subst hm
    have HO := Lib.hid ho
    have HL := Lib.hid hon
    have HT := Lib.hid ht
    have HZ := Lib.hid hz
    clear ho hon hz ht
    simp only
    by_cases hlt : m < n
    · have hlt2 : m < (count s).1 := by rw [← HN.out.1]; exact hlt
      have C2 := Lib.hid (rpoint_any wr Q P sk HT.out.1 (by have := HL.out.2.2.1; have := HN.out.2.1; omega))
      obtain ⟨x, hx⟩ : ∃ x, x = (getPt sk).1 := ⟨_, rfl⟩
      obtain ⟨s2, hs2⟩ : ∃ s2, s2 = (getPt sk).2 := ⟨_, rfl⟩
      have bad := Lib.hid (fun hf => onlist_bad HL.out hlt2 hf)
      have next := Lib.hid (fun hf => onlist_next getPt_less HL.out hlt2 hf)
      rw [← hx, ← hs2] at C2
      rw [← hs2] at bad
      rw [← hx, ← hs2] at next
      have cf := Lib.hid (fun (w1 : World) (t : RNext wr Q P s2 w1) => show w1.cell? ⟨P, 1, none⟩ = some (.int .i64 (s2.f : Int)) from by obtain ⟨⟨g, hg⟩, _⟩ := t; exact cell_at (i := 1) hg.block rfl)
      clear hx hs2 hlt2
      by_cases hf : s2.f = 0
      · have hf1 : ((s2.f : Int) != 0) = false := by rw [hf]; rfl
        have hf2 : ((s2.f : Int) == 0) = true := by rw [hf]; rfl
        have HF := Lib.hid hf
        have AL := Lib.hid (fun (w1 : World) (t : RNext wr Q P s2 w1) => own_rnext HO.out HN.out.2.2 t)
        clear hf
        go_wp2_with (first
          | (go_at_call 34; ((with_reducible refine C2.out.mono ?_); rintro en w1 ⟨rfl, t1⟩; have T2 := Lib.hid t1; have c1 := ((Keeps.refl none' w1).alloc (.cells #[.int .i64 x.1, .int .i64 x.2] 60)).cell (cf.out _ t1); have NW := Lib.hid (cells_new 2 (w1.alloc (.cells #[.int .i64 x.1, .int .i64 x.2] 60)) #[.int .i64 x.1, .int .i64 x.2] 60 1 1 (pts [x]) rfl rfl (Nat.le_refl _) (pts_one _)); have OW := Lib.hid (own_kept (AL.out _ t1) (w' := (w1.alloc (.cells #[.int .i64 x.1, .int .i64 x.2] 60)).alloc (.cells #[.int .i64 x.1, .int .i64 x.2] 60)) (fun g hg => ((((Keeps.refl none' w1).alloc _).alloc _).later g (own_lt (AL.out _ t1) g hg).2))); have sz1 : w.heap.size ≤ w1.heap.size := Nat.le_trans HT.out.2.size t1.2.size; clear t1))
          | (at_builtin; go_loud (refine wpList_append_row rfl 23 60 _ _ rfl i0 _ 2 16 Try.underlying23 hi hz0 hz1 hz2 rfl (by decide) (by decide) w.heap.size m (.slice a m c) _ rfl OW.out ⟨some ⟨w1.heap.size + 1, 0, none⟩, 1, 1⟩ _ rfl (by have := NW.out; simpa using this) (by omega) (by show 1 ≤ _; omega) (by simp; omega) ?_; intro aa cap w2 ho hg hat; have K1 := Lib.hid (And.intro ho (And.intro hg hat)); clear ho hg hat)))
        go_roundw
        case rel =>
          obtain ⟨ho, hg, hat⟩ := K1.out
          refine ⟨m + 1, l ++ [x], s2, ⟨aa, m + 1, cap⟩, by omega, by go_num, rfl, rfl, ?_, next.out (by simp [HF.out]), Or.inr HF.out, ?_⟩
          · rw [pts_append]
            exact ho
          · have kk : Keeps none' w1 ((w1.alloc (.cells #[.int .i64 x.1, .int .i64 x.2] 60)).alloc (.cells #[.int .i64 x.1, .int .i64 x.2] 60)) := ((Keeps.refl none' w1).alloc _).alloc _
            have k2 : Keeps none' w w2 ∨ True := Or.inr trivial
            have hr : Keeps (fun q => q = P) w w1 := HT.out.2.trans T2.out.2 (fun _ _ x => x)
            have ob : ∀ q, (Value.slice a m c).ownBlock = some q → w.heap.size ≤ q := fun q hq => (own_lt HO.out q hq).1
            have hPlt := HN.out.2.2
            refine ⟨?_, ((hr.trans kk (fun _ _ f => f.elim)).grown hg (fun q hq e => by have := ob q e; omega))⟩
            obtain ⟨g, hg2⟩ := (T2.out.1.later kk)
            have gk : Keeps (fun q => some q = (Value.slice a m c).ownBlock) ((w1.alloc (.cells #[.int .i64 x.1, .int .i64 x.2] 60)).alloc (.cells #[.int .i64 x.1, .int .i64 x.2] 60)) w2 := (Keeps.refl _ _).grown hg (fun q _ e => e.symm)
            exact Rd.keep ⟨g, hg2⟩ gk (fun i hi => by
              have := ob i hi.symm
              have hle := hg2.le
              constructor
              · omega
              · omega)
        case measure => simp [intOf]; omega
      · have hf1 : ((s2.f : Int) != 0) = true := by simp [hf]
        have hf2 : ((s2.f : Int) == 0) = false := by simp [hf]
        have HB := Lib.hid (bad.out hf)
        clear hf
        go_wp2_with (go_at_call 34; ((with_reducible refine C2.out.mono ?_); rintro en w1 ⟨rfl, t1⟩; have T2 := Lib.hid t1; have c1 := ((Keeps.refl none' w1).alloc (.cells #[.int .i64 x.1, .int .i64 x.2] 60)).cell (cf.out _ t1); clear t1))
        go_ret
        rw [HB.out]
        exact ⟨Hd.nil, rfl, ⟨rfl, .inl ⟨rfl, rfl⟩⟩, HT.out.trans ⟨T2.out.1.later ((Keeps.refl none' w1).alloc _), T2.out.2.trans ((Keeps.refl none' w1).alloc _) (fun _ _ f => f.elim)⟩⟩
    · have e : m = (count s).1 := by have := HN.out.1; omega
      have HE := Lib.hid e
      clear e
      go_wp2_with fail
      go_ret
      have := HL.out
      rw [HE.out] at this
      rw [onlist_end this HZ.out]
      exact ⟨⟨a, m, c⟩, rfl, HO.out, HT.out⟩
end Go.Proofs.Ytcdhpidglchinaa
