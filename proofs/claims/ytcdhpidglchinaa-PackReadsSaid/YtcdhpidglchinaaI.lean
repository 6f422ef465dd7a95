/- getList of numbers, reader.row. -/
import Derived.Test.YtcdhpidglchinaaH
namespace Go.Proofs.Ytcdhpidglchinaa
open Go.RowKit Go.Lib Pk
set_option linter.unusedSimpArgs false
set_option linter.unusedVariables false

theorem many_nil {α : Type} (g : St → α × St) (n : Nat) : ∀ s, (many g n s).2.f ≠ 0 → (many g n s).1 = [] := by
  cases n with
  | zero => intro s _; rfl
  | succ n =>
    intro s h
    unfold many at h ⊢
    split
    · rfl
    · rename_i h1
      rw [if_neg h1] at h
      split
      · rfl
      · rename_i h2
        rw [if_neg h2] at h
        exact absurd h h2
def cont {α : Type} (l : List α) (r : List α × St) : List α × St := if r.2.f ≠ 0 then ([], r.2) else (l ++ r.1, r.2)
/-- What stands of a list when some of its things have been read. -/
def OnList {α : Type} (g : St → α × St) (s : St) (k : Nat) (l : List α) (sk : St) : Prop :=
  getL g s = cont l (many g ((count s).1 - k) sk) ∧ l.length = k ∧ sk.ys.length ≤ s.ys.length ∧ k ≤ (count s).1
theorem onlist0 {α : Type} (g : St → α × St) (s : St) : OnList g s 0 [] (count s).2 := by
  refine ⟨?_, rfl, count_less s, Nat.zero_le _⟩
  unfold getL cont
  rw [Nat.sub_zero]
  split
  · rename_i h
    rw [← many_nil g _ _ h]
  · rfl
theorem onlist_bad {α : Type} {g : St → α × St} {s : St} {k : Nat} {l : List α} {sk : St} (h : OnList g s k l sk) (hk : k < (count s).1) (hf : (g sk).2.f ≠ 0) : getL g s = ([], (g sk).2) := by
  rw [h.1]
  obtain ⟨m, hm⟩ : ∃ m, (count s).1 - k = m + 1 := ⟨(count s).1 - k - 1, by omega⟩
  rw [hm]
  unfold cont many
  rw [if_pos hf, if_pos hf]
theorem onlist_next {α : Type} {g : St → α × St} {s : St} {k : Nat} {l : List α} {sk : St} (hless : ∀ s, (g s).2.ys.length ≤ s.ys.length) (h : OnList g s k l sk) (hk : k < (count s).1) (hf : ¬ (g sk).2.f ≠ 0) : OnList g s (k + 1) (l ++ [(g sk).1]) (g sk).2 := by
  obtain ⟨h1, h2, h3, h4⟩ := h
  refine ⟨?_, by simp [h2], Nat.le_trans (hless sk) h3, hk⟩
  rw [h1]
  obtain ⟨m, hm⟩ : ∃ m, (count s).1 - k = m + 1 := ⟨(count s).1 - k - 1, by omega⟩
  rw [hm, show (count s).1 - (k + 1) = m by omega]
  unfold cont
  conv => lhs; unfold many
  rw [if_neg hf]
  by_cases h5 : (many g m (g sk).2).2.f ≠ 0
  · simp only [if_pos h5]
  · simp only [if_neg h5]
    simp
theorem onlist_end {α : Type} {g : St → α × St} {s : St} {l : List α} {sk : St} (h : OnList g s (count s).1 l sk) (hz : l = [] ∨ sk.f = 0) : getL g s = (l, sk) := by
  rw [h.1, Nat.sub_self]
  unfold cont many
  rcases hz with rfl | hz
  · by_cases hf : sk.f ≠ 0
    · rw [if_pos hf]
    · rw [if_neg hf]; rfl
  · rw [if_neg (by simp [hz]), List.append_nil]
/-- A list that is told, in a row of the call's own. -/
def GotL (w : World) (Q P : Nat) (T : TypeId) (k : Nat) (vs : List Value) (s' : St) (en : Ending) (w' : World) : Prop :=
  ∃ hd : Hd, en = .returned (.slice hd.a hd.n hd.c) ∧ w'.ownsRow w.heap.size T k (.slice hd.a hd.n hd.c) hd.n vs ∧ RNext w Q P s' w'
theorem own_rnext {w w' w1 : World} {Q P T k n : Nat} {v : Value} {vs : List Value} {s : St} (h : w1.ownsRow w.heap.size T k v n vs) (hP : P < w.heap.size) (t : RNext w1 Q P s w') : w'.ownsRow w.heap.size T k v n vs :=
  own_kept h (fun g hg => t.2.block g (own_lt h g hg).2 (by have := (own_lt h g hg).1; omega))
set_option maxHeartbeats 1600000 in
theorem getInts_any (w : World) (Q P : Nat) (s : St) (h : Rd w Q P s) (hl : s.ys.length ≤ 1000000) :
    Calls Try.prog 39 #[.pointer (some ⟨P, 0, none⟩), .func (.func 38) #[.pointer (some ⟨P, 0, none⟩)] #[]] w (GotL w Q P 3 1 (ints (getL num s).1) (getL num s).2) := by
  have C1 := Lib.hid (rcount_any w Q P s h hl)
  have hfit := count_fits (s := s)
  obtain ⟨n, hn⟩ : ∃ n, n = (count s).1 := ⟨_, rfl⟩
  rw [← hn] at C1 hfit
  have hn2 : n ≤ 1000000 := by omega
  have HN := Lib.hid (And.intro hn (And.intro hl h.lt))
  have O0 := Lib.hid (onlist0 num s)
  obtain ⟨i0, hi, hz0, hz1, hz2⟩ := info_parts info3
  clear hfit hl h hn
  go_enter Try.func39, Try.ntmps39
  go_wp2_with (go_at_call 40; ((with_reducible refine C1.out.mono ?_); rintro en w1 ⟨rfl, t1⟩; have T1 := Lib.hid t1; clear t1))
  go_loopw [5, 9] (fun v u wr => ∃ (k : Nat) (l : List Int) (sk : St) (hd : Hd), k ≤ n ∧ u = .int .i64 k ∧ v = .slice hd.a hd.n hd.c ∧ hd.n = k ∧ wr.ownsRow w.heap.size 3 1 (.slice hd.a hd.n hd.c) hd.n (ints l) ∧ OnList num s k l sk ∧ (l = [] ∨ sk.f = 0) ∧ RNext w Q P sk wr) (fun _ u _ => n - (intOf u).toNat)
  case atStart => exact ⟨0, [], _, Hd.nil, Nat.zero_le _, rfl, rfl, rfl, ⟨rfl, .inl ⟨rfl, rfl⟩⟩, O0.out, Or.inl rfl, T1.out⟩
  case round =>
    obtain ⟨k, l, sk, ⟨a, m, c⟩, hk, rfl, rfl, hm, ho, hon, hz, ht⟩ := hrel
    simp only at hm
    subst hm
    have HO := Lib.hid ho
    have HL := Lib.hid hon
    have HT := Lib.hid ht
    have HZ := Lib.hid hz
    clear ho hon hz ht
    simp only
    by_cases hlt : m < n
    · have hlt2 : m < (count s).1 := by rw [← HN.out.1]; exact hlt
      have C2 := Lib.hid (rnum_any wr Q P sk HT.out.1 (by have := HL.out.2.2.1; have := HN.out.2.1; omega))
      obtain ⟨x, hx⟩ : ∃ x, x = (num sk).1 := ⟨_, rfl⟩
      obtain ⟨s2, hs2⟩ : ∃ s2, s2 = (num sk).2 := ⟨_, rfl⟩
      have bad := Lib.hid (fun hf => onlist_bad HL.out hlt2 hf)
      have next := Lib.hid (fun hf => onlist_next num_less HL.out hlt2 hf)
      rw [← hx, ← hs2] at C2
      rw [← hs2] at bad
      rw [← hx, ← hs2] at next
      have cf := Lib.hid (fun (w1 : World) (t : RNext wr Q P s2 w1) => show w1.cell? ⟨P, 1, none⟩ = some (.int .i64 (s2.f : Int)) from by obtain ⟨⟨g, hg⟩, _⟩ := t; exact cell_at (i := 1) hg.block rfl)
      clear hx hs2 hlt2
      by_cases hf : s2.f = 0
      · have hf1 : ((s2.f : Int) != 0) = false := by rw [hf]; rfl
        have hf2 : ((s2.f : Int) == 0) = true := by rw [hf]; rfl
        have HF := Lib.hid hf
        have AL := Lib.hid (fun (w1 : World) (t : RNext wr Q P s2 w1) => own_rnext HO.out HN.out.2.2 t)
        clear hf
        go_wp2_with (first
          | (go_at_call 38; ((with_reducible refine C2.out.mono ?_); rintro en w1 ⟨rfl, t1⟩; have T2 := Lib.hid t1; have c1 := cf.out _ t1; have NW := Lib.hid (cells_new 1 w1 #[.int .i64 x] 3 1 1 (ints [x]) rfl rfl (Nat.le_refl _) (ints_one _)); have OW := Lib.hid (own_kept (AL.out _ t1) (w' := w1.alloc (.cells #[.int .i64 x] 3)) (fun g hg => Below.heap_alloc _ _ _ (own_lt (AL.out _ t1) g hg).2)); have sz1 : w.heap.size ≤ w1.heap.size := Nat.le_trans HT.out.2.size t1.2.size; clear t1))
          | (at_builtin; go_loud (refine wpList_append_row rfl 22 3 _ _ rfl i0 _ 1 8 Try.underlying22 hi hz0 hz1 hz2 rfl (by decide) (by decide) w.heap.size m (.slice a m c) _ rfl OW.out ⟨some ⟨w1.heap.size, 0, none⟩, 1, 1⟩ _ rfl NW.out (by omega) (by show 1 ≤ _; omega) (by simp; omega) ?_; intro aa cap w2 ho hg hat; have K1 := Lib.hid (And.intro ho (And.intro hg hat)); clear ho hg hat)))
        go_roundw
        case rel =>
          obtain ⟨ho, hg, hat⟩ := K1.out
          refine ⟨m + 1, l ++ [x], s2, ⟨aa, m + 1, cap⟩, by omega, by go_num, rfl, rfl, ?_, next.out (by simp [HF.out]), Or.inr HF.out, ?_⟩
          · rw [ints_append]
            exact ho
          · have kk : Keeps none' w1 (w1.alloc (.cells #[.int .i64 x] 3)) := (Keeps.refl none' w1).alloc _
            have k2 : Keeps none' w w2 ∨ True := Or.inr trivial
            have hr : Keeps (fun q => q = P) w w1 := HT.out.2.trans T2.out.2 (fun _ _ x => x)
            have ob : ∀ q, (Value.slice a m c).ownBlock = some q → w.heap.size ≤ q := fun q hq => (own_lt HO.out q hq).1
            have hPlt := HN.out.2.2
            refine ⟨?_, ((hr.trans kk (fun _ _ f => f.elim)).grown hg (fun q hq e => by have := ob q e; omega))⟩
            obtain ⟨g, hg2⟩ := (T2.out.1.later kk)
            have gk : Keeps (fun q => some q = (Value.slice a m c).ownBlock) (w1.alloc (.cells #[.int .i64 x] 3)) w2 := (Keeps.refl _ _).grown hg (fun q _ e => e.symm)
            exact Rd.keep ⟨g, hg2⟩ gk (fun i hi => by
              have := ob i hi.symm
              have hle := hg2.le
              constructor
              · omega
              · omega)
        case measure => simp [intOf]; omega
      · have hf1 : ((s2.f : Int) != 0) = true := by simp [hf]
        have hf2 : ((s2.f : Int) == 0) = false := by simp [hf]
        have HB := Lib.hid (bad.out hf)
        clear hf
        go_wp2_with (go_at_call 38; ((with_reducible refine C2.out.mono ?_); rintro en w1 ⟨rfl, t1⟩; have T2 := Lib.hid t1; have c1 := cf.out _ t1; clear t1))
        go_ret
        rw [HB.out]
        exact ⟨Hd.nil, rfl, ⟨rfl, .inl ⟨rfl, rfl⟩⟩, HT.out.trans T2.out⟩
    · have e : m = (count s).1 := by have := HN.out.1; omega
      have HE := Lib.hid e
      clear e
      go_wp2_with fail
      go_ret
      have := HL.out
      rw [HE.out] at this
      rw [onlist_end this HZ.out]
      exact ⟨⟨a, m, c⟩, rfl, HO.out, HT.out⟩
end Go.Proofs.Ytcdhpidglchinaa
