/- The document's reader in memory; its fail and num. -/
import Derived.Test.YtcdhpidglchinaaH
namespace Go.Proofs.Ytcdhpidglchinaa
open Go.RowKit Go.Lib Pk
set_option linter.unusedSimpArgs false
set_option linter.unusedVariables false

/-- The document's reader in block P, over the bytes zs. -/
structure RfP (w : World) (Q P : Nat) (zs : List Nat) (s : St) (g : Hd) (t : Nat) : Prop where
  block : w.heap[P]? = some (.cells #[.slice g.a g.n g.c, .int .i64 (t : Int), .int .i64 (s.f : Int)] 64 (0, 0))
  cells : Cells 1 w g (bys zs)
  low : ∀ x, g.a = some x → 0 < g.n → x.block < Q
  le : Q ≤ P
  lt : ∀ y ∈ zs, y < 256
  at_ : t ≤ zs.length
  ok : s.Ok
  here : s.f = 0 → s.ys = zs.drop t
def Rf (w : World) (Q P : Nat) (zs : List Nat) (s : St) : Prop := ∃ (g : Hd) (t : Nat), RfP w Q P zs s g t
def RfNext (w : World) (Q P : Nat) (zs : List Nat) (s : St) (w' : World) : Prop := Rf w' Q P zs s ∧ Keeps (fun k => k = P) w w'
theorem Rf.lt {w : World} {Q P : Nat} {zs : List Nat} {s : St} (h : Rf w Q P zs s) : P < w.heap.size := by obtain ⟨g, t, h⟩ := h; exact lt_of_block h.block
theorem Rf.keep {X : Nat → Prop} {w w' : World} {Q P : Nat} {zs : List Nat} {s : St} (h : Rf w Q P zs s) (k : Keeps X w w') (hX : ∀ i, X i → Q ≤ i ∧ i ≠ P) : Rf w' Q P zs s := by
  obtain ⟨g, t, h⟩ := h
  exact ⟨g, t, (k.block P (lt_of_block h.block) (fun x => (hX P x).2 rfl)).trans h.block, h.cells.keep k (fun x hx hp hy => by have := h.low x hx hp; have := (hX _ hy).1; omega), h.low, h.le, h.lt, h.at_, h.ok, h.here⟩
theorem Rf.later {w w' : World} {Q P : Nat} {zs : List Nat} {s : St} (h : Rf w Q P zs s) (k : Keeps none' w w') : Rf w' Q P zs s := h.keep k (fun _ x => x.elim)
theorem RfNext.trans {w w1 w2 : World} {Q P : Nat} {zs : List Nat} {s s2 : St} (h : RfNext w Q P zs s w1) (k : RfNext w1 Q P zs s2 w2) : RfNext w Q P zs s2 w2 := ⟨k.1, h.2.trans k.2 (fun _ _ x => x)⟩
/-- From a block as it stands. -/
theorem rf_set {w : World} {Q P : Nat} {zs : List Nat} {s s' : St} {g : Hd} {t t' : Nat} (h : RfP w Q P zs s g t) (w' : World) (k : Keeps (fun k => k = P) w w') (hb : w'.heap[P]? = some (.cells #[.slice g.a g.n g.c, .int .i64 (t' : Int), .int .i64 (s'.f : Int)] 64 (0, 0))) (ht : t' ≤ zs.length) (ok : s'.Ok) (hh : s'.f = 0 → s'.ys = zs.drop t') : RfNext w Q P zs s' w' :=
  ⟨⟨g, t', hb, h.cells.keep k (fun x hx hp e => by have := h.low x hx hp; have := h.le; omega), h.low, h.le, h.lt, ht, ok, hh⟩, k⟩
def failV (f e : Nat) : Nat := if f = 0 then e else f
set_option maxHeartbeats 400000 in
theorem Rfail_any (w : World) (P : Nat) (a b : Value) (f e : Nat) (h : w.heap[P]? = some (.cells #[a, b, .int .i64 (f : Int)] 64 (0, 0))) : Calls Try.prog 26 #[.pointer (some ⟨P, 0, none⟩), .int .i64 (e : Int)] w fun en w' => en = .returned (.tuple #[]) ∧ w'.heap[P]? = some (.cells #[a, b, .int .i64 ((failV f e : Nat) : Int)] 64 (0, 0)) ∧ Keeps (fun k => k = P) w w' := by
  have H := Lib.hid h
  have c2 : w.cell? ⟨P, 2, none⟩ = some (.int .i64 (f : Int)) := cell_at (i := 2) h rfl
  have f2 := free_at (i := 2) h
  clear h
  by_cases hf : f = 0
  · have hb : ((f : Int) == 0) = true := by rw [hf]; rfl
    have HF := Lib.hid hf
    clear hf
    go_enter Try.func26, Try.ntmps26
    go_wp2_with fail
    go_end0
    refine ⟨rfl, ?_, keeps_at w P 2 _⟩
    rw [block_set H.out]
    unfold failV
    rw [if_pos HF.out]
    rfl
  · have hb : ((f : Int) == 0) = false := by simp [hf]
    have HF := Lib.hid hf
    clear hf
    go_enter Try.func26, Try.ntmps26
    go_wp2_with fail
    go_end0
    refine ⟨rfl, ?_, Keeps.refl _ _⟩
    rw [H.out]
    unfold failV
    rw [if_neg HF.out]
theorem odd_bool (b : Bool) (A : Nat) (h : b = (A % 2 == 1)) : (if b = true then -1 - ((A / 2 : Nat) : Int) else ((A / 2 : Nat) : Int)) = zag A := by
  subst h
  unfold zag
  rcases (show A % 2 = 0 ∨ A % 2 = 1 by omega) with e | e
  · rw [e]; simp
  · rw [e]; simp
theorem pow_half {k : Nat} (hk : 0 < k) : (128 : Nat) ^ k = 2 * 2 ^ (7 * k - 1) := by
  obtain ⟨m, hm⟩ : ∃ m, 7 * k = m + 1 := ⟨7 * k - 1, by omega⟩
  rw [show 7 * k - 1 = m by omega, show (128 : Nat) = 2 ^ 7 from rfl, ← Nat.pow_mul, hm, Nat.pow_succ, Nat.mul_comm]
theorem num_add0 {A M q A2 M2 : Nat} (hM : M = A / 2) (hA : A2 = A + 2 * q) (hM2 : M2 = A2 / 2) (h : A2 < 18446744073709551616) : wrap64 ((M : Int) + wrap64 (q : Int)) = (M2 : Int) := by
  have e1 : wrap64 (q : Int) = q := by unfold wrap64; omega
  rw [e1]
  unfold wrap64
  omega
theorem num_add2 {A M y k A2 M2 p : Nat} (e : (128 : Nat) ^ k = 2 * p) (hM : M = A / 2) (hA : A2 = A + y % 128 * 128 ^ k) (hM2 : M2 = A2 / 2) (h : A2 < 18446744073709551616) : wrap64 ((M : Int) + wrap64 ((y : Int) % 128 * (p : Int))) = (M2 : Int) := by
  have e3 : (y : Int) % 128 * (p : Int) = ((y % 128 * p : Nat) : Int) := by simp
  rw [e3]
  refine num_add0 hM ?_ hM2 h
  rw [hA, e, Nat.mul_left_comm]
theorem num_add {A M y k A2 M2 : Nat} (hk : 0 < k) (hM : M = A / 2) (hA : A2 = A + y % 128 * 128 ^ k) (hM2 : M2 = A2 / 2) (h : A2 < 18446744073709551616) : wrap64 ((M : Int) + wrap64 ((y : Int) % 128 * 2 ^ (7 * k - 1))) = (M2 : Int) := by
  have := num_add2 (y := y) (pow_half hk) hM hA hM2 h
  rw [show ((2 ^ (7 * k - 1) : Nat) : Int) = 2 ^ (7 * k - 1) by simp] at this
  exact this
theorem par_add {A y k A2 : Nat} (hk : 0 < k) (hA : A2 = A + y % 128 * 128 ^ k) : (A2 % 2 == 1) = (A % 2 == 1) := by
  have e : (128 : Nat) ^ k = 2 * 2 ^ (7 * k - 1) := pow_half hk
  have e2 : y % 128 * 128 ^ k = 2 * (y % 128 * 2 ^ (7 * k - 1)) := by rw [e, Nat.mul_left_comm]
  have e3 : A2 % 2 = A % 2 := by omega
  rw [e3]
theorem Rnum_done {w wn : World} {Q P : Nat} {zs : List Nat} {s : St} {g : Hd} {t0 t k A2 : Nat} (H : RfP w Q P zs s g t0) (hf : s.f = 0) (hy : s.ys = zs.drop t0) (hd : dec 0 s.ys = .ok (A2, s.ys.drop (k + 1))) (ht : t = t0 + k) (htn : t < zs.length)
    (hb : wn.heap[P]? = some (.cells #[.slice g.a g.n g.c, .int .i64 (t : Int), .int .i64 0] 64 (0, 0))) (hk : Keeps (fun q => q = P) w wn) : (num s).1 = zag A2 ∧ RfNext w Q P zs (num s).2 (wn.setCell ⟨P, 1, none⟩ (.int .i64 ((t : Int) + 1))) := by
  have en : num s = (zag A2, ⟨s.f, s.ys.drop (k + 1)⟩) := by unfold num; rw [hd]
  rw [en]
  refine ⟨rfl, rf_set (t' := t + 1) H _ (hk.trans (keeps_at wn P 1 _) (fun _ _ x => x)) ?_ (by omega) (fun x => absurd hf x) (fun _ => ?_)⟩
  · rw [block_set hb, hf]
    rfl
  · show s.ys.drop (k + 1) = _
    rw [hy, List.drop_drop, show t0 + (k + 1) = t + 1 by omega]
theorem Rnum_fail {w wn : World} {Q P : Nat} {zs : List Nat} {s : St} {g : Hd} {t0 t' e : Nat} (H : RfP w Q P zs s g t0) (hf : s.f = 0) (hd : dec 0 s.ys = .error e) (he : e ≠ 0) (htn : t' ≤ zs.length)
    (hb : wn.heap[P]? = some (.cells #[.slice g.a g.n g.c, .int .i64 (t' : Int), .int .i64 (e : Int)] 64 (0, 0))) (hk : Keeps (fun q => q = P) w wn) : (num s).1 = 0 ∧ RfNext w Q P zs (num s).2 wn := by
  have en : num s = (0, s.fail e) := by unfold num; rw [hd]
  rw [en]
  have ef : (s.fail e).f = e := by unfold St.fail; simp [hf]
  refine ⟨rfl, rf_set (t' := t') H _ hk (by rw [ef]; exact hb) htn (s.fail_ok e) (fun x => absurd x (by rw [ef]; exact he))⟩
theorem wrap_neg {M A2 : Nat} (hM : M = A2 / 2) (h : A2 < 18446744073709551616) : wrap64 (-1 - (M : Int)) = -1 - (M : Int) := by unfold wrap64; omega
theorem rfail_at (e : Nat) (P : Nat) (W : World) (a b : Value) (h : W.heap[P]? = some (.cells #[a, b, .int .i64 0] 64 (0, 0))) : Calls Try.prog 26 #[.pointer (some ⟨P, 0, none⟩), .int .i64 (e : Int)] W fun en w' => en = .returned (.tuple #[]) ∧ w'.heap[P]? = some (.cells #[a, b, .int .i64 (e : Int)] 64 (0, 0)) ∧ Keeps (fun k => k = P) W w' := by
  have k := Rfail_any W P a b 0 e (by rw [h]; rfl)
  have ef : failV 0 e = e := by unfold failV; rw [if_pos rfl]
  rw [ef] at k
  exact k
theorem zag_even {A M : Nat} (h : (A % 2 == 1) = false) (hM : M = A / 2) : (M : Int) = zag A := by
  have : A % 2 = 0 := by have h2 : ¬ A % 2 = 1 := by simpa using h; 
                         omega
  unfold zag
  rw [if_pos this, hM]
theorem zag_odd {A M : Nat} (h : (A % 2 == 1) = true) (hM : M = A / 2) (h64 : A < 18446744073709551616) : wrap64 (-1 - (M : Int)) = zag A := by
  have h2 : A % 2 = 1 := by simpa using h
  unfold zag
  rw [if_neg (by omega), wrap_neg hM h64, hM]
end Go.Proofs.Ytcdhpidglchinaa
