/- Numbers and lists in bytes, as plain data: how they are put, how they are got, and that the one leads back to the other. -/
import Derived.WalkKit
namespace Go.Proofs.Ytcdhpidglchinaa
set_option linter.unusedVariables false
namespace Pk

/-- A number as one from 0 on. -/
def zig (n : Int) : Nat := if 0 ≤ n then (2 * n).toNat else (-2 * n - 1).toNat
def zag (z : Nat) : Int := if z % 2 = 0 then ((z / 2 : Nat) : Int) else -1 - ((z / 2 : Nat) : Int)
theorem zag_zig (n : Int) : zag (zig n) = n := by
  unfold zag zig
  split <;> split <;> omega
theorem zig_zag (z : Nat) : zig (zag z) = z := by
  unfold zag zig
  split <;> split <;> omega
def Fit (n : Int) : Prop := -9223372036854775808 ≤ n ∧ n ≤ 9223372036854775807
theorem zig_lt {n : Int} (h : Fit n) : zig n < 18446744073709551616 := by
  unfold Fit at h
  unfold zig
  split <;> omega
theorem zag_fit {z : Nat} (h : z < 18446744073709551616) : Fit (zag z) := by
  unfold zag Fit
  split <;> omega

/-- A number from 0 on, in groups of seven bits. -/
def enc (z : Nat) : List Nat := if z < 128 then [z] else (z % 128 + 128) :: enc (z / 128)
termination_by z
decreasing_by omega
theorem enc_small {z : Nat} (h : z < 128) : enc z = [z] := by rw [enc, if_pos h]
theorem enc_big {z : Nat} (h : ¬ z < 128) : enc z = (z % 128 + 128) :: enc (z / 128) := by rw [enc, if_neg h]
theorem enc_pos (z : Nat) : 0 < (enc z).length := by
  rw [enc]
  split <;> simp
theorem enc_lt (z : Nat) : ∀ y ∈ enc z, y < 256 := by
  induction z using Nat.strongRecOn with
  | _ z ih =>
    intro y hy
    by_cases h : z < 128
    · rw [enc_small h] at hy
      simp at hy
      omega
    · rw [enc_big h] at hy
      rcases List.mem_cons.1 hy with e | e
      · omega
      · exact ih (z / 128) (by omega) y e
/-- How many bytes. -/
theorem enc_len (k : Nat) : ∀ z, z < 128 ^ k → 0 < k → (enc z).length ≤ k := by
  induction k with
  | zero => intro z _ h; omega
  | succ k ih =>
    intro z hz _
    by_cases h : z < 128
    · rw [enc_small h]; simp
    · rw [enc_big h]
      have hk : 0 < k := by
        rcases Nat.eq_zero_or_pos k with e | e
        · subst e; simp at hz; omega
        · exact e
      have := ih (z / 128) (by rw [Nat.pow_succ] at hz; omega) hk
      simp
      omega
theorem enc_len10 {z : Nat} (h : z < 18446744073709551616) : (enc z).length ≤ 10 := enc_len 10 z (Nat.lt_of_lt_of_le h (by decide)) (by decide)

/-- What is got of bytes, the first of them the one with the index k. -/
def dec (k : Nat) : List Nat → Except Nat (Nat × List Nat)
  | [] => .error 20
  | b :: bs =>
    if (0 < k ∧ b = 0) ∨ (k = 9 ∧ 1 < b) then .error 25
    else if b < 128 then .ok (b, bs)
    else match dec (k + 1) bs with
      | .ok (z, r) => .ok (b % 128 + 128 * z, r)
      | .error e => .error e

theorem dec_enc (m : Nat) : ∀ (k z : Nat) (r : List Nat), k + m = 10 → 0 < m → z * 128 ^ k < 18446744073709551616 → (0 < k → 0 < z) → dec k (enc z ++ r) = .ok (z, r) := by
  induction m with
  | zero => intro k z r _ h; omega
  | succ m ih =>
    intro k z r hk _ hz h0
    by_cases h : z < 128
    · rw [enc_small h]
      have h9 : k = 9 → z ≤ 1 := by rintro rfl; simp at hz; omega
      show dec k (z :: r) = _
      unfold dec
      rw [if_neg (by omega), if_pos h]
    · rw [enc_big h]
      show dec k ((z % 128 + 128) :: (enc (z / 128) ++ r)) = _
      have h9 : k ≠ 9 := by rintro rfl; simp at hz; omega
      have hz2 : z / 128 * 128 ^ (k + 1) < 18446744073709551616 := by
        refine Nat.lt_of_le_of_lt ?_ hz
        rw [Nat.pow_succ, Nat.mul_comm (128 ^ k), ← Nat.mul_assoc]
        exact Nat.mul_le_mul_right _ (by omega)
      have e := ih (k + 1) (z / 128) r (by omega) (by omega) hz2 (by omega)
      unfold dec
      rw [if_neg (by omega), if_neg (by omega), e]
      simp only
      congr 2
      omega

theorem dec_fore (k : Nat) (ys : List Nat) : ∀ (z : Nat) (r : List Nat), (∀ y ∈ ys, y < 256) → dec k ys = .ok (z, r) → ys = enc z ++ r ∧ (0 < k → 0 < z) ∧ (k ≤ 9 → z * 128 ^ k < 18446744073709551616) := by
  induction ys generalizing k with
  | nil => intro z r _ h; simp [dec] at h
  | cons b bs ih =>
    intro z r hb h
    unfold dec at h
    split at h
    · cases h
    · rename_i h1
      have hb0 := hb b List.mem_cons_self
      split at h
      · rename_i h2
        cases h
        refine ⟨by rw [enc_small h2]; rfl, fun _ => by omega, fun h9 => ?_⟩
        have hk : k = 9 ∨ k ≤ 8 := by omega
        rcases hk with rfl | hk
        · have : b ≤ 1 := by omega
          calc b * 128 ^ 9 ≤ 1 * 128 ^ 9 := Nat.mul_le_mul_right _ this
            _ < _ := by decide
        · calc b * 128 ^ k ≤ 127 * 128 ^ k := Nat.mul_le_mul_right _ (by omega)
            _ ≤ 127 * 128 ^ 8 := Nat.mul_le_mul_left _ (Nat.pow_le_pow_right (by decide) hk)
            _ < _ := by decide
      · rename_i h2
        cases hd : dec (k + 1) bs with
        | error e => rw [hd] at h; cases h
        | ok p =>
          obtain ⟨z2, r2⟩ := p
          rw [hd] at h
          simp only [Except.ok.injEq, Prod.mk.injEq] at h
          obtain ⟨rfl, rfl⟩ := h
          obtain ⟨e1, e2, e3⟩ := ih (k + 1) z2 r2 (fun y hy => hb y (List.mem_cons_of_mem _ hy)) hd
          have hz2 := e2 (by omega)
          refine ⟨?_, fun _ => by omega, fun h9 => ?_⟩
          · rw [enc_big (by omega), show (b % 128 + 128 * z2) % 128 + 128 = b by omega, show (b % 128 + 128 * z2) / 128 = z2 by omega, e1]
            rfl
          · have hk : k ≤ 8 := by
              rcases Nat.lt_or_ge 8 k with h | h
              · have : k = 9 := by omega
                subst this
                omega
              · exact h
            have h3 := e3 (by omega)
            have h128 : 128 ^ (k + 1) = 128 * 128 ^ k := by rw [Nat.pow_succ, Nat.mul_comm]
            have hp : 0 < 128 ^ k := Nat.pow_pos (by decide)
            have hm : 128 ^ k ≤ 128 ^ 8 := Nat.pow_le_pow_right (by decide) hk
            obtain ⟨M, hM⟩ : ∃ M, 128 ^ (k + 1) * M = 18446744073709551616 := by
              have hk8 : k = 0 ∨ k = 1 ∨ k = 2 ∨ k = 3 ∨ k = 4 ∨ k = 5 ∨ k = 6 ∨ k = 7 ∨ k = 8 := by omega
              rcases hk8 with rfl | rfl | rfl | rfl | rfl | rfl | rfl | rfl | rfl
              · exact ⟨144115188075855872, by decide⟩
              · exact ⟨1125899906842624, by decide⟩
              · exact ⟨8796093022208, by decide⟩
              · exact ⟨68719476736, by decide⟩
              · exact ⟨536870912, by decide⟩
              · exact ⟨4194304, by decide⟩
              · exact ⟨32768, by decide⟩
              · exact ⟨256, by decide⟩
              · exact ⟨2, by decide⟩
            have hlt : z2 < M := by
              rw [← hM, Nat.mul_comm z2] at h3
              exact Nat.lt_of_mul_lt_mul_left h3
            have hle : (z2 + 1) * 128 ^ (k + 1) ≤ 18446744073709551616 := by
              rw [← hM, Nat.mul_comm (128 ^ (k + 1)) M]
              exact Nat.mul_le_mul_right _ hlt
            refine Nat.lt_of_lt_of_le ?_ hle
            rw [h128, ← Nat.mul_assoc]
            exact Nat.mul_lt_mul_of_pos_right (by omega) hp

/-- Bytes that are cut off. -/
theorem dec_cut (m : Nat) : ∀ (k z j : Nat), k + m = 10 → 0 < m → z * 128 ^ k < 18446744073709551616 → (0 < k → 0 < z) → j < (enc z).length → dec k ((enc z).take j) = .error 20 := by
  induction m with
  | zero => intro k z r _ h; omega
  | succ m ih =>
    intro k z j hk _ hz h0 hj
    cases j with
    | zero => rfl
    | succ j =>
      by_cases h : z < 128
      · rw [enc_small h] at hj
        simp at hj
      · rw [enc_big h] at hj ⊢
        have h9 : k ≠ 9 := by rintro rfl; simp at hz; omega
        have hz2 : z / 128 * 128 ^ (k + 1) < 18446744073709551616 := by
          refine Nat.lt_of_le_of_lt ?_ hz
          rw [Nat.pow_succ, Nat.mul_comm (128 ^ k), ← Nat.mul_assoc]
          exact Nat.mul_le_mul_right _ (by omega)
        have e := ih (k + 1) (z / 128) j (by omega) (by omega) hz2 (by omega) (by simpa using hj)
        rw [List.take_succ_cons]
        unfold dec
        rw [if_neg (by omega), if_neg (by omega), e]

/-- What a reader has: its first fault, and the bytes that are left. -/
structure St where
  f : Nat
  ys : List Nat
def St.fail (s : St) (e : Nat) : St := ⟨if s.f = 0 then e else s.f, []⟩
def St.Ok (s : St) : Prop := s.f ≠ 0 → s.ys = []
theorem St.fail_ok (s : St) (e : Nat) : (s.fail e).Ok := fun _ => rfl
theorem St.fail_ne (s : St) {e : Nat} (h : e ≠ 0) : (s.fail e).f ≠ 0 := by
  unfold St.fail
  simp only
  split <;> assumption
theorem St.fail_keep {s : St} (h : s.f ≠ 0) (e : Nat) : (s.fail e).f = s.f := by simp [St.fail, h]

/-- What makes a way to put a thing and a way to get one fit. -/
structure Codec {α : Type} (Ok : α → Prop) (put : α → List Nat) (get : St → α × St) : Prop where
  back : ∀ a r, Ok a → get ⟨0, put a ++ r⟩ = (a, ⟨0, r⟩)
  fore : ∀ ys, (∀ y ∈ ys, y < 256) → (get ⟨0, ys⟩).2.f = 0 → Ok (get ⟨0, ys⟩).1 ∧ ys = put (get ⟨0, ys⟩).1 ++ (get ⟨0, ys⟩).2.ys
  cut : ∀ a k, Ok a → k < (put a).length → (get ⟨0, (put a).take k⟩).2.f = 20
  bad : ∀ s, s.f ≠ 0 → s.ys = [] → (get s).2.f = s.f ∧ (get s).2.ys = []
  still : ∀ s, s.Ok → (get s).2.Ok
  less : ∀ s, (get s).2.ys.length ≤ s.ys.length
  bytes : ∀ a, ∀ y ∈ put a, y < 256

/-- A number. -/
def put (n : Int) : List Nat := enc (zig n)
def num (s : St) : Int × St :=
  match dec 0 s.ys with
  | .ok (z, r) => (zag z, ⟨s.f, r⟩)
  | .error e => (0, s.fail e)
theorem dec_ne (k : Nat) (ys : List Nat) (e : Nat) (h : dec k ys = .error e) : e = 20 ∨ e = 25 := by
  induction ys generalizing k with
  | nil => simp [dec] at h; omega
  | cons b bs ih =>
    unfold dec at h
    split at h
    · cases h; exact Or.inr rfl
    · split at h
      · cases h
      · cases hd : dec (k + 1) bs with
        | error e2 => rw [hd] at h; cases h; exact ih (k + 1) hd
        | ok p => rw [hd] at h; cases h
theorem dec_less (k : Nat) (ys : List Nat) (z : Nat) (r : List Nat) (h : dec k ys = .ok (z, r)) : r.length < ys.length := by
  induction ys generalizing k z r with
  | nil => simp [dec] at h
  | cons b bs ih =>
    unfold dec at h
    split at h
    · cases h
    · split at h
      · cases h; simp
      · cases hd : dec (k + 1) bs with
        | error e2 => rw [hd] at h; cases h
        | ok p =>
          rw [hd] at h; cases h
          have := ih (k + 1) _ _ hd
          simp
          omega
theorem num_bad {s : St} (h : s.f ≠ 0) (hy : s.ys = []) : num s = (0, ⟨s.f, []⟩) := by
  unfold num
  rw [hy]
  simp [dec, St.fail, h]
theorem codec_num : Codec Fit put num where
  back a r h := by
    have e := dec_enc 10 0 (zig a) r (by omega) (by omega) (by simpa using zig_lt h) (by omega)
    unfold num put
    simp only
    rw [e]
    simp only [zag_zig]
  fore ys hy h := by
    unfold num at h ⊢
    simp only at h ⊢
    cases hd : dec 0 ys with
    | error e =>
      rw [hd] at h
      have := dec_ne _ _ _ hd
      simp [St.fail] at h
      omega
    | ok p =>
      obtain ⟨z, r⟩ := p
      obtain ⟨e1, _, e3⟩ := dec_fore 0 ys z r hy hd
      simp only
      refine ⟨zag_fit (by simpa using e3 (by omega)), ?_⟩
      unfold put
      rw [zig_zag, ← e1]
  cut a k h hk := by
    have e := dec_cut 10 0 (zig a) k (by omega) (by omega) (by simpa using zig_lt h) (by omega) hk
    unfold num put
    simp only
    rw [e]
    rfl
  bad s h hy := by rw [num_bad h hy]; exact ⟨rfl, rfl⟩
  still s h := by
    unfold num
    cases hd : dec 0 s.ys with
    | error e => exact St.fail_ok _ _
    | ok p =>
      intro hf
      have := h hf
      rw [this] at hd
      simp [dec] at hd
  less s := by
    unfold num
    cases hd : dec 0 s.ys with
    | error e => simp [St.fail]
    | ok p => exact Nat.le_of_lt (dec_less _ _ _ _ hd)
  bytes a := enc_lt _
theorem put_pos (n : Int) : 0 < (put n).length := enc_pos _

/-- Two things. -/
def getP {α β : Type} (g : St → α × St) (h : St → β × St) (s : St) : (α × β) × St :=
  (((g s).1, (h (g s).2).1), (h (g s).2).2)
theorem Codec.pair {α β : Type} {O1 : α → Prop} {O2 : β → Prop} {p1 : α → List Nat} {p2 : β → List Nat} {g1 : St → α × St} {g2 : St → β × St} (h1 : Codec O1 p1 g1) (h2 : Codec O2 p2 g2) :
    Codec (fun x : α × β => O1 x.1 ∧ O2 x.2) (fun x => p1 x.1 ++ p2 x.2) (getP g1 g2) where
  back a r h := by
    unfold getP
    rw [List.append_assoc, h1.back _ _ h.1]
    simp only
    rw [h2.back _ _ h.2]
  fore ys hy h := by
    unfold getP at h ⊢
    simp only at h ⊢
    have k1 : (g1 ⟨0, ys⟩).2.f = 0 := by
      rcases Nat.eq_zero_or_pos (g1 ⟨0, ys⟩).2.f with e | e
      · exact e
      · have hk := (h1.still ⟨0, ys⟩ (fun h => absurd rfl h)) (by omega)
        have := (h2.bad _ (by omega) hk).1
        omega
    obtain ⟨a1, a2⟩ := h1.fore ys hy k1
    have e : (g1 ⟨0, ys⟩).2 = ⟨0, (g1 ⟨0, ys⟩).2.ys⟩ := by
      cases hs : (g1 ⟨0, ys⟩).2 with
      | mk f y => rw [hs] at k1; simp only at k1; subst k1; rfl
    rw [e] at h ⊢
    obtain ⟨b1, b2⟩ := h2.fore _ (fun y hm => hy y (by rw [a2]; exact List.mem_append_right _ hm)) h
    refine ⟨⟨a1, b1⟩, ?_⟩
    rw [List.append_assoc, ← b2, ← a2]
  cut a k h hk := by
    unfold getP
    simp only
    by_cases hl : k < (p1 a.1).length
    · have e := h1.cut _ _ h.1 hl
      rw [show (p1 a.1 ++ p2 a.2).take k = (p1 a.1).take k by rw [List.take_append_of_le_length (Nat.le_of_lt hl)]]
      have hs := (h1.still ⟨0, (p1 a.1).take k⟩ (fun h => absurd rfl h)) (by omega)
      rw [(h2.bad _ (by omega) hs).1, e]
    · obtain ⟨j, rfl⟩ : ∃ j, k = (p1 a.1).length + j := ⟨k - (p1 a.1).length, by omega⟩
      rw [List.take_length_add_append, h1.back _ _ h.1]
      exact h2.cut _ _ h.2 (by simp at hk; omega)
  bad s h hy := by
    unfold getP
    simp only
    obtain ⟨a1, a2⟩ := h1.bad s h hy
    obtain ⟨b1, b2⟩ := h2.bad (g1 s).2 (by omega) a2
    exact ⟨b1.trans a1, b2⟩
  still s h := h2.still _ (h1.still _ h)
  less s := Nat.le_trans (h2.less _) (h1.less _)
  bytes a y hy := by
    rcases List.mem_append.1 hy with h | h
    · exact h1.bytes _ _ h
    · exact h2.bytes _ _ h

/-- How many things a list has. -/
def count (s : St) : Nat × St :=
  if (num s).1 < 0 then (0, (num s).2.fail 25)
  else if ((num s).2.ys.length : Int) < (num s).1 then (0, (num s).2.fail 20)
  else ((num s).1.toNat, (num s).2)
/-- So many things; behind a fault there is none. -/
def many {α : Type} (g : St → α × St) : Nat → St → List α × St
  | 0, s => ([], s)
  | n + 1, s =>
    if (g s).2.f ≠ 0 then ([], (g s).2)
    else if (many g n (g s).2).2.f ≠ 0 then ([], (many g n (g s).2).2)
    else ((g s).1 :: (many g n (g s).2).1, (many g n (g s).2).2)
def getL {α : Type} (g : St → α × St) (s : St) : List α × St := many g (count s).1 (count s).2
def putL {α : Type} (p : α → List Nat) (l : List α) : List Nat := put (l.length : Int) ++ l.flatMap p

theorem many_back {α : Type} {O : α → Prop} {p : α → List Nat} {g : St → α × St} (h : Codec O p g) (l : List α) : ∀ r, (∀ a ∈ l, O a) → many g l.length ⟨0, l.flatMap p ++ r⟩ = (l, ⟨0, r⟩) := by
  induction l with
  | nil => intro r _; rfl
  | cons a l ih =>
    intro r hO
    have e := h.back a (l.flatMap p ++ r) (hO a List.mem_cons_self)
    have e2 := ih r (fun x hx => hO x (List.mem_cons_of_mem _ hx))
    show many g (l.length + 1) ⟨0, (p a ++ l.flatMap p) ++ r⟩ = _
    rw [List.append_assoc]
    unfold many
    rw [e]
    simp only [ne_eq, not_true_eq_false, if_false]
    rw [e2]
    simp
theorem eta0 {s : St} (h : s.f = 0) : s = ⟨0, s.ys⟩ := by
  cases s with
  | mk f y => simp only at h; subst h; rfl
theorem many_fore {α : Type} {O : α → Prop} {p : α → List Nat} {g : St → α × St} (h : Codec O p g) (n : Nat) : ∀ ys, (∀ y ∈ ys, y < 256) → (many g n ⟨0, ys⟩).2.f = 0 →
    (∀ a ∈ (many g n ⟨0, ys⟩).1, O a) ∧ (many g n ⟨0, ys⟩).1.length = n ∧ ys = (many g n ⟨0, ys⟩).1.flatMap p ++ (many g n ⟨0, ys⟩).2.ys := by
  induction n with
  | zero => intro ys _ _; simp [many]
  | succ n ih =>
    intro ys hy hf
    unfold many at hf ⊢
    by_cases h1 : (g ⟨0, ys⟩).2.f ≠ 0
    · rw [if_pos h1] at hf; exact absurd hf h1
    · rw [if_neg h1] at hf ⊢
      have h1' : (g ⟨0, ys⟩).2.f = 0 := by omega
      obtain ⟨a1, a2⟩ := h.fore ys hy h1'
      have e := eta0 h1'
      by_cases h2 : (many g n (g ⟨0, ys⟩).2).2.f ≠ 0
      · rw [if_pos h2] at hf; exact absurd hf h2
      · rw [if_neg h2] at hf ⊢
        have h2' : (many g n (g ⟨0, ys⟩).2).2.f = 0 := by omega
        rw [e] at h2'
        obtain ⟨b1, b2, b3⟩ := ih _ (fun y hm => hy y (by rw [a2]; exact List.mem_append_right _ hm)) h2'
        rw [← e] at b1 b2 b3
        refine ⟨?_, ?_, ?_⟩
        · intro a ha
          rcases List.mem_cons.1 ha with rfl | ha
          · exact a1
          · exact b1 a ha
        · simp [b2]
        · simp only [List.flatMap_cons, List.append_assoc]
          rw [← b3, ← a2]
theorem many_cut {α : Type} {O : α → Prop} {p : α → List Nat} {g : St → α × St} (h : Codec O p g) (l : List α) : ∀ k, (∀ a ∈ l, O a) → k < (l.flatMap p).length → (many g l.length ⟨0, (l.flatMap p).take k⟩).2.f = 20 := by
  induction l with
  | nil => intro k _ hk; simp at hk
  | cons a l ih =>
    intro k hO hk
    simp only [List.flatMap_cons, List.length_cons] at hk ⊢
    unfold many
    by_cases hl : k < (p a).length
    · have e := h.cut a k (hO a List.mem_cons_self) hl
      rw [List.take_append_of_le_length (Nat.le_of_lt hl), if_pos (by omega)]
      exact e
    · obtain ⟨j, rfl⟩ : ∃ j, k = (p a).length + j := ⟨k - (p a).length, by omega⟩
      rw [List.take_length_add_append, h.back _ _ (hO a List.mem_cons_self)]
      simp only [ne_eq, not_true_eq_false, if_false]
      have e := ih j (fun x hx => hO x (List.mem_cons_of_mem _ hx)) (by simp at hk ⊢; omega)
      rw [if_pos (by omega)]
      exact e
theorem many_bad {α : Type} {g : St → α × St} (n : Nat) (hb : ∀ s, s.f ≠ 0 → s.ys = [] → (g s).2.f = s.f ∧ (g s).2.ys = []) (s : St) (h : s.f ≠ 0) (hy : s.ys = []) : (many g n s).2.f = s.f ∧ (many g n s).2.ys = [] := by
  cases n with
  | zero => exact ⟨rfl, hy⟩
  | succ n =>
    obtain ⟨a, b⟩ := hb s h hy
    unfold many
    rw [if_pos (by omega)]
    exact ⟨a, b⟩
theorem many_still {α : Type} {g : St → α × St} (n : Nat) (hs : ∀ s, s.Ok → (g s).2.Ok) : ∀ s, s.Ok → (many g n s).2.Ok := by
  induction n with
  | zero => intro s h; exact h
  | succ n ih =>
    intro s h
    unfold many
    split
    · exact hs s h
    · split <;> exact ih _ (hs s h)
theorem many_less {α : Type} {g : St → α × St} (n : Nat) (hs : ∀ s, (g s).2.ys.length ≤ s.ys.length) : ∀ s, (many g n s).2.ys.length ≤ s.ys.length := by
  induction n with
  | zero => intro s; exact Nat.le_refl _
  | succ n ih =>
    intro s
    unfold many
    split
    · exact hs s
    · split <;> exact Nat.le_trans (ih _) (hs s)
theorem flat_long {α : Type} {O : α → Prop} {p : α → List Nat} (hp : ∀ a, O a → 0 < (p a).length) (l : List α) (h : ∀ a ∈ l, O a) : l.length ≤ (l.flatMap p).length := by
  induction l with
  | nil => simp
  | cons a l ih =>
    have := ih (fun x hx => h x (List.mem_cons_of_mem _ hx))
    have := hp a (h a List.mem_cons_self)
    simp only [List.flatMap_cons, List.length_append, List.length_cons]
    omega
theorem count_bad {s : St} (h : s.f ≠ 0) (hy : s.ys = []) : count s = (0, ⟨s.f, []⟩) := by
  unfold count
  rw [num_bad h hy]
  simp
theorem count_still (s : St) (h : s.Ok) : (count s).2.Ok := by
  unfold count
  split
  · exact St.fail_ok _ _
  · split
    · exact St.fail_ok _ _
    · exact codec_num.still s h
theorem count_less (s : St) : (count s).2.ys.length ≤ s.ys.length := by
  unfold count
  split
  · simp [St.fail]
  · split
    · simp [St.fail]
    · exact codec_num.less s
theorem count_fits {s : St} : (count s).1 ≤ s.ys.length := by
  unfold count
  split
  · simp
  · split
    · simp
    · have := codec_num.less s
      simp only
      omega
/-- Lists of no more things than a number may say. -/
theorem Codec.list {α : Type} {O : α → Prop} {p : α → List Nat} {g : St → α × St} (h : Codec O p g) (hp : ∀ a, O a → 0 < (p a).length) :
    Codec (fun l : List α => (∀ a ∈ l, O a) ∧ l.length ≤ 9223372036854775807) (putL p) (getL g) where
  back l r hl := by
    have e := codec_num.back (l.length : Int) (l.flatMap p ++ r) ⟨by omega, by omega⟩
    have hlen := flat_long hp l hl.1
    have ec : count ⟨0, putL p l ++ r⟩ = (l.length, ⟨0, l.flatMap p ++ r⟩) := by
      unfold count putL
      rw [List.append_assoc, e]
      simp only
      rw [if_neg (by omega), if_neg (by simp only [List.length_append]; omega)]
      simp
    unfold getL
    rw [ec]
    exact many_back h l r hl.1
  fore ys hy hf := by
    unfold getL at hf ⊢
    have hc : (count ⟨0, ys⟩).2.f = 0 := by
      rcases Nat.eq_zero_or_pos (count ⟨0, ys⟩).2.f with e | e
      · exact e
      · have hk := count_still ⟨0, ys⟩ (fun h => absurd rfl h) (by omega)
        have := (many_bad (count ⟨0, ys⟩).1 h.bad _ (by omega) hk).1
        omega
    have e : ∃ n r, count ⟨0, ys⟩ = (n, ⟨0, r⟩) ∧ ys = put (n : Int) ++ r ∧ n ≤ 9223372036854775807 := by
      unfold count at hc ⊢
      by_cases h1 : (num ⟨0, ys⟩).1 < 0
      · rw [if_pos h1] at hc
        exact absurd hc (St.fail_ne _ (by decide))
      · rw [if_neg h1] at hc ⊢
        by_cases h2 : ((num ⟨0, ys⟩).2.ys.length : Int) < (num ⟨0, ys⟩).1
        · rw [if_pos h2] at hc
          exact absurd hc (St.fail_ne _ (by decide))
        · rw [if_neg h2] at hc ⊢
          obtain ⟨a1, a2⟩ := codec_num.fore ys hy hc
          refine ⟨_, (num ⟨0, ys⟩).2.ys, by rw [← eta0 hc], ?_, ?_⟩
          · rw [show (((num ⟨0, ys⟩).1.toNat : Nat) : Int) = (num ⟨0, ys⟩).1 by omega]
            exact a2
          · unfold Fit at a1
            omega
    obtain ⟨n, r, ec, ey, hn⟩ := e
    rw [ec] at hf ⊢
    simp only at hf ⊢
    obtain ⟨b1, b2, b3⟩ := many_fore h n r (fun y hm => hy y (by rw [ey]; exact List.mem_append_right _ hm)) hf
    refine ⟨⟨b1, by omega⟩, ?_⟩
    unfold putL
    rw [b2, List.append_assoc, ← b3]
    exact ey
  cut l k hl hk := by
    unfold getL
    unfold putL at hk ⊢
    by_cases hlt : k < (put (l.length : Int)).length
    · have e := codec_num.cut (l.length : Int) k ⟨by omega, by omega⟩ hlt
      have es := codec_num.still ⟨0, (put (l.length : Int)).take k⟩ (fun h => absurd rfl h)
      rw [List.take_append_of_le_length (Nat.le_of_lt hlt)]
      have e0 : num ⟨0, (put (l.length : Int)).take k⟩ = (0, ⟨20, []⟩) := by
        have := dec_cut 10 0 (zig (l.length : Int)) k (by omega) (by omega) (by have := zig_lt (n := (l.length : Int)) ⟨by omega, by omega⟩; simpa using this) (by omega) hlt
        unfold num put
        simp only
        rw [this]
        rfl
      have ec : count ⟨0, (put (l.length : Int)).take k⟩ = (0, ⟨20, []⟩) := by
        unfold count
        rw [e0]
        simp
      rw [ec]
      rfl
    · obtain ⟨j, rfl⟩ : ∃ j, k = (put (l.length : Int)).length + j := ⟨k - (put (l.length : Int)).length, by omega⟩
      rw [List.take_length_add_append]
      have e := codec_num.back (l.length : Int) ((l.flatMap p).take j) ⟨by omega, by omega⟩
      by_cases hj : ((l.flatMap p).take j).length < l.length
      · have ec : count ⟨0, put (l.length : Int) ++ (l.flatMap p).take j⟩ = (0, ⟨20, []⟩) := by
          unfold count
          rw [e]
          simp only
          rw [if_neg (by omega), if_pos (by omega)]
          rfl
        rw [ec]
        rfl
      · have ec : count ⟨0, put (l.length : Int) ++ (l.flatMap p).take j⟩ = (l.length, ⟨0, (l.flatMap p).take j⟩) := by
          unfold count
          rw [e]
          simp only
          rw [if_neg (by omega), if_neg (by omega)]
          simp
        rw [ec]
        exact many_cut h l j hl.1 (by simp only [List.length_append] at hk; omega)
  bad s hf hy := by
    unfold getL
    rw [count_bad hf hy]
    exact ⟨rfl, rfl⟩
  still s hs := many_still _ h.still _ (count_still s hs)
  less s := Nat.le_trans (many_less _ h.less _) (count_less s)
  bytes l y hy := by
    rcases List.mem_append.1 hy with hm | hm
    · exact enc_lt _ _ hm
    · obtain ⟨a, _, ha⟩ := List.mem_flatMap.1 hm
      exact h.bytes _ _ ha

/-- So many numbers. -/
def nums : Nat → St → List Int × St
  | 0, s => ([], s)
  | n + 1, s => ((num s).1 :: (nums n (num s).2).1, (nums n (num s).2).2)
theorem nums_len (n : Nat) : ∀ s, (nums n s).1.length = n := by
  induction n with
  | zero => intro s; rfl
  | succ n ih => intro s; simp [nums, ih]
theorem codec_nums (n : Nat) : Codec (fun l : List Int => (∀ a ∈ l, Fit a) ∧ l.length = n) (fun l => l.flatMap put) (nums n) := by
  induction n with
  | zero =>
    refine ⟨?_, ?_, ?_, ?_, ?_, ?_, ?_⟩
    · intro a r h
      obtain rfl : a = [] := List.eq_nil_of_length_eq_zero h.2
      rfl
    · intro ys _ _
      exact ⟨⟨fun a h => absurd h List.not_mem_nil, rfl⟩, rfl⟩
    · intro a k h hk
      obtain rfl : a = [] := List.eq_nil_of_length_eq_zero h.2
      simp at hk
    · intro s h hy; exact ⟨rfl, hy⟩
    · intro s h; exact h
    · intro s; exact Nat.le_refl _
    · intro a y hy
      obtain ⟨b, _, hb⟩ := List.mem_flatMap.1 hy
      exact enc_lt _ _ hb
  | succ n ih =>
    have P := codec_num.pair ih
    refine ⟨?_, ?_, ?_, ?_, ?_, ?_, ?_⟩
    · intro a r h
      cases a with
      | nil => simp at h
      | cons x l =>
        have e := P.back (x, l) r ⟨h.1 x List.mem_cons_self, fun y hy => h.1 y (List.mem_cons_of_mem _ hy), by simpa using h.2⟩
        unfold getP at e
        simp only [Prod.mk.injEq] at e
        obtain ⟨⟨e1, e2⟩, e3⟩ := e
        simp only [nums, List.flatMap_cons]
        rw [e1, e2, e3]
    · intro ys hy hf
      obtain ⟨⟨a1, a2, a3⟩, b⟩ := P.fore ys hy hf
      refine ⟨⟨?_, by simp [nums, nums_len]⟩, ?_⟩
      · intro z hz
        rcases List.mem_cons.1 hz with rfl | hz
        · exact a1
        · exact a2 z hz
      · simpa [nums, getP] using b
    · intro a k h hk
      cases a with
      | nil => simp at h
      | cons x l =>
        have e := P.cut (x, l) k ⟨h.1 x List.mem_cons_self, fun y hy => h.1 y (List.mem_cons_of_mem _ hy), by simpa using h.2⟩ (by simpa using hk)
        simpa [nums, getP] using e
    · intro s h hy; exact P.bad s h hy
    · intro s h; exact P.still s h
    · intro s; exact P.less s
    · intro a y hy
      obtain ⟨b, _, hb⟩ := List.mem_flatMap.1 hy
      exact enc_lt _ _ hb

/-- An edit: its ten numbers, P, Shape, Map, Params. -/
abbrev Ed : Type := List Int × List Int × List (Int × Int) × List Int × List Int
abbrev Pn : Type := Int × Int
def putPt (p : Int × Int) : List Nat := put p.1 ++ put p.2
def getPt : St → (Int × Int) × St := getP num num
def putE (e : Ed) : List Nat := e.1.flatMap put ++ (putL put e.2.1 ++ (putL putPt e.2.2.1 ++ (e.2.2.2.1.flatMap put ++ putL put e.2.2.2.2)))
def getE : St → Ed × St := getP (nums 10) (getP (getL num) (getP (getL getPt) (getP (nums 6) (getL num))))
def RowOk (l : List Int) : Prop := (∀ a ∈ l, Fit a) ∧ l.length ≤ 9223372036854775807
def EdOk (e : Ed) : Prop := ((∀ a ∈ e.1, Fit a) ∧ e.1.length = 10) ∧ ((∀ a ∈ e.2.1, Fit a) ∧ e.2.1.length ≤ 9223372036854775807) ∧ ((∀ a ∈ e.2.2.1, Fit a.1 ∧ Fit a.2) ∧ e.2.2.1.length ≤ 9223372036854775807) ∧ ((∀ a ∈ e.2.2.2.1, Fit a) ∧ e.2.2.2.1.length = 6) ∧ ((∀ a ∈ e.2.2.2.2, Fit a) ∧ e.2.2.2.2.length ≤ 9223372036854775807)
theorem codec_pt : Codec (fun p : Int × Int => Fit p.1 ∧ Fit p.2) putPt getPt := codec_num.pair codec_num
theorem putPt_pos (p : Int × Int) : 0 < (putPt p).length := by
  unfold putPt
  have := put_pos p.1
  rw [List.length_append]
  omega
theorem codec_edit : Codec EdOk putE getE :=
  (codec_nums 10).pair ((codec_num.list (fun a _ => put_pos a)).pair ((codec_pt.list (fun a _ => putPt_pos a)).pair ((codec_nums 6).pair (codec_num.list (fun a _ => put_pos a)))))
/-- What is told of bytes at the end: the fault. -/
def fin (s : St) : Nat := if 0 < s.ys.length then (s.fail 25).f else s.f
theorem edit_back {e : Ed} (h : EdOk e) : getE ⟨0, putE e⟩ = (e, ⟨0, []⟩) := by
  have k := codec_edit.back e [] h
  rwa [List.append_nil] at k
theorem edit_fore {ys : List Nat} (hy : ∀ y ∈ ys, y < 256) (h : fin (getE ⟨0, ys⟩).2 = 0) : EdOk (getE ⟨0, ys⟩).1 ∧ ys = putE (getE ⟨0, ys⟩).1 := by
  unfold fin at h
  split at h
  · exact absurd h (St.fail_ne _ (by decide))
  · obtain ⟨a, b⟩ := codec_edit.fore ys hy h
    have e : (getE ⟨0, ys⟩).2.ys = [] := List.eq_nil_of_length_eq_zero (by omega)
    rw [e, List.append_nil] at b
    exact ⟨a, b⟩
theorem edit_cut {e : Ed} {k : Nat} (h : EdOk e) (hk : k < (putE e).length) : fin (getE ⟨0, (putE e).take k⟩).2 = 20 := by
  have a := codec_edit.cut e k h hk
  have b := codec_edit.still ⟨0, (putE e).take k⟩ (fun h => absurd rfl h) (by omega)
  unfold fin
  rw [b]
  exact a
theorem edit_more {e : Ed} {r : List Nat} (h : EdOk e) (hr : 0 < r.length) : fin (getE ⟨0, putE e ++ r⟩).2 = 25 := by
  rw [codec_edit.back e r h]
  unfold fin St.fail
  simp [hr]
theorem edit_inj {e e2 : Ed} (h : EdOk e) (h2 : EdOk e2) (k : putE e = putE e2) : e = e2 := by
  have a := edit_back h
  rw [k, edit_back h2] at a
  exact (Prod.mk.inj a).1.symm
end Pk
end Go.Proofs.Ytcdhpidglchinaa
