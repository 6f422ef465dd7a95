/- The document's nums. -/
import Derived.Test.YtcdhpidglchinaaRC
namespace Go.Proofs.Ytcdhpidglchinaa
open Go.RowKit Go.Lib Pk
set_option linter.unusedSimpArgs false
set_option linter.unusedVariables false

theorem Rf.len {w : World} {Q P : Nat} {zs : List Nat} {s : St} (h : Rf w Q P zs s) : s.ys.length ≤ zs.length := by
  obtain ⟨g, t, h⟩ := h
  by_cases hf : s.f = 0
  · rw [h.here hf, List.length_drop]; omega
  · rw [h.ok hf]; simp
/-- A list that the document's reader tells. -/
def GotR (w : World) (Q P : Nat) (zs : List Nat) (s : St) (en : Ending) (w' : World) : Prop :=
  ∃ (hd : Hd) (l : List Int), en = .returned (.slice hd.a hd.n hd.c) ∧ w'.ownsRow w.heap.size 3 1 (.slice hd.a hd.n hd.c) hd.n (ints l) ∧ RfNext w Q P zs (getL num s).2 w' ∧ ((getL num s).2.f = 0 → l = (getL num s).1)
def OnR (s : St) (k : Nat) (l : List Int) (sk : St) : Prop := (OnList num s k l sk ∧ (l = [] ∨ sk.f = 0)) ∨ (sk.f ≠ 0 ∧ (getL num s).2 = sk)
theorem st_eta {s : St} (h : s.ys = []) : (⟨s.f, []⟩ : St) = s := by cases s; simp only at h; subst h; rfl
theorem onr_stop {s sk : St} {k : Nat} {l : List Int} (h : OnR s k l sk) (hf : sk.f ≠ 0) (hy : sk.ys = []) (hk : k ≤ (count s).1) : (getL num s).2 = sk := by
  rcases h with ⟨h, _⟩ | ⟨_, h⟩
  · by_cases hlt : k < (count s).1
    · have e := num_bad hf hy
      have := onlist_bad h hlt (by rw [e]; exact hf)
      rw [this, e]
      exact st_eta hy
    · have ek : k = (count s).1 := by omega
      subst ek
      rw [h.1, Nat.sub_self]
      unfold cont many
      rw [if_pos hf]
  · exact h
theorem onr_end {s sk : St} {l : List Int} (h : OnR s (count s).1 l sk) (hf : sk.f = 0) : getL num s = (l, sk) := by
  rcases h with ⟨h, hz⟩ | ⟨h, _⟩
  · exact onlist_end h hz
  · exact absurd hf h
theorem onr_next {s sk : St} {k : Nat} {l : List Int} (h : OnR s k l sk) (hf : sk.f = 0) (hk : k < (count s).1) : OnR s (k + 1) (l ++ [(num sk).1]) (num sk).2 := by
  rcases h with ⟨h, _⟩ | ⟨h, _⟩
  · by_cases h2 : (num sk).2.f = 0
    · exact Or.inl ⟨onlist_next num_less h hk (by omega), Or.inr h2⟩
    · refine Or.inr ⟨h2, ?_⟩
      rw [onlist_bad h hk h2]
  · exact absurd hf h
theorem own_rfnext {w w' w1 : World} {Q P T k n : Nat} {zs : List Nat} {v : Value} {vs : List Value} {s : St} (h : w1.ownsRow w.heap.size T k v n vs) (hP : P < w.heap.size) (t : RfNext w1 Q P zs s w') : w'.ownsRow w.heap.size T k v n vs :=
  own_kept h (fun g hg => t.2.block g (own_lt h g hg).2 (by have := (own_lt h g hg).1; omega))
set_option maxRecDepth 100000 in
set_option maxHeartbeats 1600000 in
theorem Rnums_any (w : World) (Q P : Nat) (zs : List Nat) (s : St) (h : Rf w Q P zs s) (hl : zs.length ≤ 1000000) : Calls Try.prog 24 #[.pointer (some ⟨P, 0, none⟩)] w (GotR w Q P zs s) := by
  have C1 := Lib.hid (Rsize_any w Q P zs s h hl)
  have hfit := count_fits (s := s)
  have hlen := h.len
  obtain ⟨n, hn⟩ : ∃ n, n = (count s).1 := ⟨_, rfl⟩
  rw [← hn] at C1 hfit
  have hn2 : n ≤ 1000000 := by omega
  have HN := Lib.hid (And.intro hn (And.intro hl h.lt))
  have O0 := Lib.hid (show OnR s 0 [] (count s).2 from Or.inl ⟨onlist0 num s, Or.inl rfl⟩)
  obtain ⟨i0, hi, hz0, hz1, hz2⟩ := info_parts info3
  clear hfit hlen hl h hn
  go_enter Try.func24, Try.ntmps24
  go_wp2_with (go_at_call 25; ((with_reducible refine C1.out.mono ?_); rintro en w1 ⟨rfl, t1⟩; have T1 := Lib.hid t1; clear t1))
  go_loopw [4, 5] (fun v u wr => ∃ (k : Nat) (l : List Int) (sk : St) (hd : Hd), k ≤ n ∧ u = .int .i64 k ∧ v = .slice hd.a hd.n hd.c ∧ hd.n = k ∧ wr.ownsRow w.heap.size 3 1 (.slice hd.a hd.n hd.c) hd.n (ints l) ∧ OnR s k l sk ∧ RfNext w Q P zs sk wr) (fun _ u _ => n - (intOf u).toNat)
  case atStart => exact ⟨0, [], _, Hd.nil, Nat.zero_le _, rfl, rfl, rfl, ⟨rfl, .inl ⟨rfl, rfl⟩⟩, O0.out, T1.out⟩
  case round =>
    obtain ⟨k, l, sk, ⟨a, m, c⟩, hk, rfl, rfl, hm, ho, hon, ht⟩ := hrel
    simp only at hm
    subst hm
    have HO := Lib.hid ho
    have HL := Lib.hid hon
    have HT := Lib.hid ht
    have c2 : wr.cell? ⟨P, 2, none⟩ = some (.int .i64 (sk.f : Int)) := by obtain ⟨⟨g, t, hg⟩, _⟩ := ht; exact cell_at (i := 2) hg.block rfl
    clear ho hon ht
    simp only
    by_cases hlt : m < n
    · by_cases hf : sk.f = 0
      · have b1 : ((sk.f : Int) == 0) = true := by rw [hf]; rfl
        have C2 := Lib.hid (Rnum_any wr Q P zs sk HT.out.1 HN.out.2.1)
        have NX := Lib.hid (onr_next HL.out hf (by rw [← HN.out.1]; exact hlt))
        obtain ⟨x, hx⟩ : ∃ x, x = (num sk).1 := ⟨_, rfl⟩
        obtain ⟨s2, hs2⟩ : ∃ s2, s2 = (num sk).2 := ⟨_, rfl⟩
        rw [← hx, ← hs2] at C2 NX
        have AL := Lib.hid (fun (w1 : World) (t : RfNext wr Q P zs s2 w1) => own_rfnext HO.out HN.out.2.2 t)
        rw [hf] at c2
        clear hx hs2 hf
        go_wp2_with (first
          | (go_at_call 23; ((with_reducible refine C2.out.mono ?_); rintro en w1 ⟨rfl, t1⟩; have T2 := Lib.hid t1; have NW := Lib.hid (cells_new 1 w1 #[.int .i64 x] 3 1 1 (ints [x]) rfl rfl (Nat.le_refl _) (ints_one _)); have OW := Lib.hid (own_kept (AL.out _ t1) (w' := w1.alloc (.cells #[.int .i64 x] 3)) (fun g hg => Below.heap_alloc _ _ _ (own_lt (AL.out _ t1) g hg).2)); have sz1 : w.heap.size ≤ w1.heap.size := Nat.le_trans HT.out.2.size t1.2.size; clear t1))
          | (at_builtin; refine wpList_append_row rfl 22 3 _ _ rfl i0 _ 1 8 Try.underlying22 hi hz0 hz1 hz2 rfl (by decide) (by decide) w.heap.size m (.slice a m c) _ rfl OW.out ⟨some ⟨w1.heap.size, 0, none⟩, 1, 1⟩ _ rfl NW.out (by omega) (by show 1 ≤ _; omega) (by simp; omega) ?_; intro aa cap w2 ho hg hat; have K1 := Lib.hid (And.intro ho (And.intro hg hat)); clear ho hg hat))
        go_roundw
        case rel =>
          obtain ⟨ho, hg, hat⟩ := K1.out
          refine ⟨m + 1, l ++ [x], s2, ⟨aa, m + 1, cap⟩, by omega, by go_num, rfl, rfl, by rw [ints_append]; exact ho, NX.out, ?_⟩
          have kk : Keeps none' w1 (w1.alloc (.cells #[.int .i64 x] 3)) := (Keeps.refl none' w1).alloc _
          have hr : Keeps (fun q => q = P) w w1 := HT.out.2.trans T2.out.2 (fun _ _ x => x)
          have ob : ∀ q, (Value.slice a m c).ownBlock = some q → w.heap.size ≤ q := fun q hq => (own_lt HO.out q hq).1
          have hPlt := HN.out.2.2
          have gk : Keeps (fun q => some q = (Value.slice a m c).ownBlock) (w1.alloc (.cells #[.int .i64 x] 3)) w2 := (Keeps.refl _ _).grown hg (fun q _ e => e.symm)
          have hQP : Q ≤ P := by obtain ⟨g, t, hg2⟩ := T2.out.1; exact hg2.le
          exact ⟨(T2.out.1.later kk).keep gk (fun i hi => by have := ob i hi.symm; constructor <;> omega), ((hr.trans kk (fun _ _ f => f.elim)).grown hg (fun q hq e => by have := ob q e; omega))⟩
        case measure => simp [intOf]; omega
      · have b1 : ((sk.f : Int) == 0) = false := by simp [hf]
        have HF := Lib.hid hf
        clear hf
        go_wp2_with fail
        go_ret
        have e := onr_stop HL.out HF.out (HT.out.1.ok HF.out) (by rw [← HN.out.1]; exact hk)
        refine ⟨⟨a, m, c⟩, l, rfl, HO.out, by rw [e]; exact HT.out, fun x => absurd (by rw [e] at x; exact x) HF.out⟩
    · have ek : m = (count s).1 := by have := HN.out.1; omega
      have HK := Lib.hid ek
      clear ek
      go_wp2_with fail
      go_ret
      have hon := HL.out
      rw [HK.out] at hon
      by_cases hf : sk.f = 0
      · have e := onr_end hon hf
        exact ⟨⟨a, m, c⟩, l, rfl, HO.out, by rw [e]; exact HT.out, fun _ => by rw [e]⟩
      · have e := onr_stop hon hf (HT.out.1.ok hf) (Nat.le_refl _)
        exact ⟨⟨a, m, c⟩, l, rfl, HO.out, by rw [e]; exact HT.out, fun x => absurd (by rw [e] at x; exact x) hf⟩
end Go.Proofs.Ytcdhpidglchinaa
