/- reader.count, reader.numbers. -/
import Derived.Test.YtcdhpidglchinaaG
namespace Go.Proofs.Ytcdhpidglchinaa
open Go.RowKit Go.Lib Pk
set_option linter.unusedSimpArgs false
set_option linter.unusedVariables false

theorem RNext.trans {w w1 w2 : World} {Q P : Nat} {s s2 : St} (h : RNext w Q P s w1) (k : RNext w1 Q P s2 w2) : RNext w Q P s2 w2 := ⟨k.1, h.2.trans k.2 (fun _ _ x => x)⟩
theorem rfail20 (w : World) (Q P : Nat) (s : St) (h : Rd w Q P s) : Calls Try.prog 36 #[.pointer (some ⟨P, 0, none⟩), .int .i64 20] w (fun en w' => en = .returned (.tuple #[]) ∧ RNext w Q P (s.fail 20) w') := rfail_any w Q P s 20 h
theorem rfail25 (w : World) (Q P : Nat) (s : St) (h : Rd w Q P s) : Calls Try.prog 36 #[.pointer (some ⟨P, 0, none⟩), .int .i64 25] w (fun en w' => en = .returned (.tuple #[]) ∧ RNext w Q P (s.fail 25) w') := rfail_any w Q P s 25 h
theorem num_less (s : St) : (num s).2.ys.length ≤ s.ys.length := codec_num.less s
set_option maxHeartbeats 800000 in
theorem rcount_any (w : World) (Q P : Nat) (s : St) (h : Rd w Q P s) (hl : s.ys.length ≤ 1000000) : Calls Try.prog 40 #[.pointer (some ⟨P, 0, none⟩)] w fun en w' => en = .returned (.int .i64 (count s).1) ∧ RNext w Q P (count s).2 w' := by
  have C1 := Lib.hid (rnum_any w Q P s h hl)
  have hless := num_less s
  obtain ⟨v, hv⟩ : ∃ v, v = (num s).1 := ⟨_, rfl⟩
  obtain ⟨s1, hs⟩ : ∃ s1, s1 = (num s).2 := ⟨_, rfl⟩
  rw [← hv, ← hs] at C1
  rw [← hs] at hless
  have ec : count s = if v < 0 then (0, s1.fail 25) else if (s1.ys.length : Int) < v then (0, s1.fail 20) else (v.toNat, s1) := by rw [hv, hs]; rfl
  obtain ⟨m, hm⟩ : ∃ m, m = s1.ys.length := ⟨_, rfl⟩
  rw [← hm] at ec hless
  have hm2 : m ≤ 1000000 := by omega
  have HM := Lib.hid hm
  have HE := Lib.hid ec
  have FF := Lib.hid (fun (w1 : World) (t1 : RNext w Q P s1 w1) => And.intro (rfail20 w1 Q P s1 t1.1) (rfail25 w1 Q P s1 t1.1))
  clear hv hs ec h hl hless hm
  go_enter Try.func40, Try.ntmps40
  have A1 : ∀ (w1 : World) (t1 : RNext w Q P s1 w1), ∃ a c, w1.cell? ⟨P, 0, none⟩ = some (.slice a m c) := fun w1 t1 => by
    obtain ⟨⟨⟨a, n, c⟩, hr⟩, _⟩ := t1
    have := hr.cells.len
    rw [bys_length, ← HM.out] at this
    simp only [Nat.mul_one] at this
    subst this
    exact ⟨a, c, cell_at (i := 0) hr.block rfl⟩
  have AA := Lib.hid A1
  clear A1
  by_cases hneg : v < 0
  · go_wp2_with (first
      | (go_at_call 38; ((with_reducible refine C1.out.mono ?_); rintro en w1 ⟨rfl, t1⟩; have T1 := Lib.hid t1; clear t1))
      | (go_at_call 36; ((with_reducible refine (FF.out _ T1.out).2.mono ?_); rintro en w2 ⟨rfl, t2⟩; have T2 := Lib.hid t2; clear t2)))
    go_ret
    rw [HE.out, if_pos hneg]
    exact ⟨rfl, T1.out.trans T2.out⟩
  · have hv0 : 0 ≤ v := by omega
    obtain ⟨u, rfl⟩ : ∃ u : Nat, v = u := ⟨v.toNat, by omega⟩
    by_cases hbig : m < u
    · have hbig2 : (m : Int) < (u : Int) := by omega
      go_wp2_with (first
        | (go_at_call 38; ((with_reducible refine C1.out.mono ?_); rintro en w1 ⟨rfl, t1⟩; have T1 := Lib.hid t1; obtain ⟨a1, c1, hc1⟩ := AA.out _ t1; clear t1))
        | (go_at_call 36; ((with_reducible refine (FF.out _ T1.out).1.mono ?_); rintro en w2 ⟨rfl, t2⟩; have T2 := Lib.hid t2; clear t2)))
      go_ret
      rw [HE.out, if_neg (by omega), if_pos hbig2]
      exact ⟨rfl, T1.out.trans T2.out⟩
    · have hbig2 : ¬ (m : Int) < (u : Int) := by omega
      go_wp2_with (first
        | (go_at_call 38; ((with_reducible refine C1.out.mono ?_); rintro en w1 ⟨rfl, t1⟩; have T1 := Lib.hid t1; obtain ⟨a1, c1, hc1⟩ := AA.out _ t1; clear t1)))
      go_ret
      rw [HE.out, if_neg (by omega), if_neg (by omega)]
      exact ⟨rfl, T1.out⟩
/-- The first cells of a block, laid anew. -/
def lay : Nat → List Int → Array Value → Array Value
  | _, [], cs => cs
  | i, x :: l, cs => lay (i + 1) l (cs.setIfInBounds i (.int .i64 x))
theorem lay_snoc (l : List Int) (x : Int) : ∀ (i : Nat) (cs : Array Value), lay i (l ++ [x]) cs = (lay i l cs).setIfInBounds (i + l.length) (.int .i64 x) := by
  induction l with
  | nil => intro i cs; rfl
  | cons y l ih =>
    intro i cs
    show lay (i + 1) (l ++ [x]) _ = _
    rw [ih (i + 1)]
    show _ = (lay (i + 1) l _).setIfInBounds (i + (l.length + 1)) _
    rw [show i + 1 + l.length = i + (l.length + 1) by omega]
theorem lay_size (l : List Int) : ∀ (i : Nat) (cs : Array Value), (lay i l cs).size = cs.size := by
  induction l with
  | nil => intro i cs; rfl
  | cons y l ih => intro i cs; show (lay (i + 1) l _).size = _; rw [ih]; simp
theorem nums_snoc (n : Nat) : ∀ s, nums (n + 1) s = ((nums n s).1 ++ [(num (nums n s).2).1], (num (nums n s).2).2) := by
  induction n with
  | zero => intro s; rfl
  | succ n ih =>
    intro s
    show ((num s).1 :: (nums (n + 1) (num s).2).1, (nums (n + 1) (num s).2).2) = _
    rw [ih (num s).2]
    rfl
theorem nums_less (n : Nat) (s : St) : (nums n s).2.ys.length ≤ s.ys.length := (codec_nums n).less s
/-- Pointers to the first cells of a block. -/
def ptrs (E m : Nat) : List Value := (List.range m).map (fun j => Value.pointer (some ⟨E, j, none⟩))
theorem ptrs_at {E m k : Nat} (h : k < m) : (ptrs E m)[k]? = some (.pointer (some ⟨E, k, none⟩)) := by simp [ptrs, h]
/-- What stands behind so many numbers. -/
def NumsB (w : World) (Q P E : Nat) (T : TypeId) (cs : Array Value) (s : St) (k : Nat) (w' : World) : Prop :=
  Rd w' Q P (nums k s).2 ∧ w'.heap[E]? = some (.cells (lay 0 (nums k s).1 cs) T (0, 0)) ∧ Keeps (fun k => k = P ∨ k = E) w w'
set_option maxHeartbeats 800000 in
theorem rnums_any (w : World) (Q P E : Nat) (T : TypeId) (cs : Array Value) (s : St) (g : Hd) (m : Nat) (h : Rd w Q P s) (hl : s.ys.length ≤ 1000000) (hE : w.heap[E]? = some (.cells cs T (0, 0))) (hm : m ≤ cs.size) (hQ : Q ≤ E) (hP : E ≠ P) (hg : Cells 1 w g (ptrs E m)) (gP : ∀ x, g.a = some x → x.block ≠ P ∧ x.block ≠ E) (hmm : m ≤ 100) :
    Calls Try.prog 31 #[.pointer (some ⟨P, 0, none⟩), .slice g.a g.n g.c] w fun en w' => en = .returned (.tuple #[]) ∧ NumsB w Q P E T cs s m w' := by
  have hn : m = g.n := by have := hg.len; simp [ptrs] at this; omega
  have HG := Lib.hid hg
  have HP := Lib.hid gP
  have N0 := Lib.hid (show NumsB w Q P E T cs s 0 w from ⟨h, hE, Keeps.refl _ _⟩)
  have HH := Lib.hid (And.intro hl (And.intro hm (And.intro hQ hP)))
  obtain ⟨a, n, c⟩ := g
  simp only at hn
  subst hn
  clear hg gP h hE hl hm hQ hP
  simp only
  go_enter Try.func31, Try.ntmps31
  go_wp2_with fail
  go_loopw [8] (fun v wr => ∃ k : Nat, k ≤ m ∧ v = .int .i64 k ∧ NumsB w Q P E T cs s k wr) (fun v _ => m - (intOf v).toNat)
  case atStart => exact ⟨0, Nat.zero_le _, rfl, N0.out⟩
  case round =>
    obtain ⟨k, hk, rfl, hb⟩ := hrel
    have HB := Lib.hid hb
    obtain ⟨r1, b1, k1⟩ := hb
    by_cases hlt : k < m
    · have HC := HG.out.keep k1 (fun x hx _ => by have := HP.out x hx; intro e; rcases e with e | e; exact this.1 e; exact this.2 e)
      obtain ⟨b, off, e, hbs, hc⟩ := HC.at (ptrs_at (E := E) hlt)
      simp only at e
      subst e
      have hls := nums_less k s
      have C := Lib.hid (rnum_any wr Q P (nums k s).2 r1 (by have := HH.out.1; omega))
      obtain ⟨x, hx⟩ : ∃ x, x = (num (nums k s).2).1 := ⟨_, rfl⟩
      rw [← hx] at C
      have hsz : k < (lay 0 (nums k s).1 cs).size := by rw [lay_size]; have := HH.out.2.1; omega
      have AE := Lib.hid (fun (w1 : World) (t : RNext wr Q P (num (nums k s).2).2 w1) => show w1.heap[E]? = some (.cells (lay 0 (nums k s).1 cs) T (0, 0)) from (t.2.block E (lt_of_block b1) HH.out.2.2.2).trans b1)
      have HX := Lib.hid hx
      have HS := Lib.hid hsz
      clear r1 b1 k1 HC hbs hls hx hsz
      go_wp2_with (go_at_call 38; ((with_reducible refine C.out.mono ?_); rintro en w1 ⟨rfl, t1⟩; have T1 := Lib.hid t1; have e1 := AE.out _ t1; have ce : ∃ v, w1.cell? ⟨E, k, none⟩ = some v := (by refine ⟨_, cell_at e1 (Array.getElem?_eq_getElem HS.out)⟩); have fe := free_at (i := k) e1; obtain ⟨v, ce⟩ := ce; have E1 := Lib.hid e1; clear e1 t1))
      go_roundw
      case rel =>
        refine ⟨k + 1, by omega, by go_num, ?_⟩
        obtain ⟨r1, b1, k1⟩ := HB.out
        have en := nums_snoc k s
        unfold NumsB
        rw [en, ← HX.out]
        refine ⟨?_, ?_, ?_⟩
        · exact T1.out.1.keep (keeps_at w1 E k _) (fun i hi => by subst hi; exact ⟨HH.out.2.2.1, HH.out.2.2.2⟩)
        · rw [block_set E1.out]
          simp only
          rw [lay_snoc, nums_len, Nat.zero_add]
        · exact (k1.trans T1.out.2 (fun _ _ x => Or.inl x)).trans (keeps_at w1 E k _) (fun _ _ x => Or.inr x)
      case measure => simp [intOf]; omega
    · clear r1 b1 k1
      go_wp2_with fail
      go_end0
      have e : k = m := by omega
      have := HB.out
      rw [e] at this
      exact ⟨rfl, this⟩
end Go.Proofs.Ytcdhpidglchinaa
