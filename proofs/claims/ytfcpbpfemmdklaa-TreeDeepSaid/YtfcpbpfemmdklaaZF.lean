/- Chains of groups, in plain words. -/
import Derived.Test.YtfcpbpfemmdklaaZE
namespace Go.Proofs.Ytfcpbpfemmdklaa
open Go.RowKit Go.Lib
set_option linter.unusedSimpArgs false
set_option linter.unusedVariables false

def gD (i : Nat) : Dat := freshD (i : Int) 1 0 0
theorem gD_id (i : Nat) : (gD i).id = (i : Int) := freshD_id _ _ _ _
theorem gD_kind (i : Nat) : (gD i).kind = 1 := rfl
/-- So many groups, one within the other; something within the last one. -/
def chx (i : Nat) : Nat → List Lay → List Lay
  | 0, xs => xs
  | j + 1, xs => [.mk (gD i) (chx (i + 1) j xs)]
theorem chx_snoc : ∀ (j i : Nat), chx i j [.mk (gD (i + j)) []] = chx i (j + 1) []
  | 0, i => rfl
  | j + 1, i => by
    have h := chx_snoc j (i + 1)
    rw [chx, show i + (j + 1) = i + 1 + j by omega, h, ← chx]
theorem chx_ids : ∀ (j i : Nat), ∀ d ∈ dats (chx i j []), (i : Int) ≤ d.id ∧ d.id < (i : Int) + (j : Int)
  | 0, i, d, hd => by rw [chx, dats] at hd; cases hd
  | j + 1, i, d, hd => by
    rw [chx, dats_one] at hd
    rcases List.mem_cons.1 hd with rfl | hd
    · rw [gD_id]; omega
    · have := chx_ids j (i + 1) d hd
      omega
theorem chx_cnt : ∀ (j i : Nat), pcnt (chx i j []) = j
  | 0, i => by rw [chx, pcnt, dats]; rfl
  | j + 1, i => by
    have h := chx_cnt j (i + 1)
    unfold pcnt at h ⊢
    rw [chx, dats_one, List.length_cons, h]
theorem go_found : ∀ (j i : Nat) (C : List PFrm) (pre rest xs : List Lay), ∃ r, go (((i + j : Nat)) : Int) C pre (chx i (j + 1) xs ++ rest) = some r ∧ r.kids = xs ∧ r.d = gD (i + j) ∧ r.C.length = C.length + j ∧ ∀ ys, plugP (⟨r.pre, r.d, r.post⟩ :: r.C) ys = plugP C (pre ++ (chx i (j + 1) ys ++ rest))
  | 0, i, C, pre, rest, xs => by
    refine ⟨⟨C, pre, gD i, xs, rest⟩, ?_, rfl, rfl, rfl, fun ys => rfl⟩
    rw [chx, chx, List.singleton_append, go, if_pos (by rw [gD_id]; rfl)]
  | j + 1, i, C, pre, rest, xs => by
    obtain ⟨r, h1, h2, h3, h4, h5⟩ := go_found j (i + 1) (⟨pre, gD i, rest⟩ :: C) [] [] xs
    rw [List.append_nil, show i + 1 + j = i + (j + 1) by omega] at h1
    refine ⟨r, ?_, h2, by rw [h3, show i + 1 + j = i + (j + 1) by omega], by rw [h4, List.length_cons]; omega, fun ys => ?_⟩
    · rw [chx, List.singleton_append, go, if_neg (by rw [gD_id]; omega), h1]
    · rw [h5 ys, List.nil_append, List.append_nil]
      rfl
theorem go_skip (id : Int) (j i : Nat) (C : List PFrm) (pre rest : List Lay) (hid : id < (i : Int) ∨ (i : Int) + (j : Int) ≤ id) : go id C pre (chx i j [] ++ rest) = go id C (pre ++ chx i j []) rest := by
  cases j with
  | zero => rw [chx, List.nil_append, List.append_nil]
  | succ j =>
    rw [chx, List.singleton_append, go, if_neg (by rw [gD_id]; omega)]
    have hn : go id (⟨pre, gD i, rest⟩ :: C) [] (chx (i + 1) j []) = none := by
      refine (go_none id _ _ (Nat.le_refl _) _ _).2 (fun d hd e => ?_)
      have := chx_ids j (i + 1) d hd
      omega
    rw [hn]
theorem deep_chx : ∀ (j i n : Nat), deepP n (chx i j []) = n + j := by
  have key : ∀ (j i n a : Nat), a ≤ n → (dps n (chx i j [])).foldl max a = if j = 0 then a else n + j := by
    intro j
    induction j with
    | zero => intro i n a ha; rw [chx, dps]; rfl
    | succ j ih =>
      intro i n a ha
      rw [chx, dps, dps, List.append_nil, List.foldl_cons, ih (i + 1) (n + 1) (max a (n + 1)) (by omega)]
      by_cases hj : j = 0
      · subst hj
        rw [if_pos rfl, if_neg (by omega)]
        omega
      · rw [if_neg hj, if_neg (by omega)]
        omega
  intro j i n
  unfold deepP
  rw [key j i n n (Nat.le_refl _)]
  split <;> omega
/-- Two chains side by side. -/
def two (n k : Nat) : List Lay := chx 1 n [] ++ chx (n + 1) k []
theorem two_cnt (n k : Nat) : pcnt (two n k) = n + k := by
  have h1 := chx_cnt n 1
  have h2 := chx_cnt k (n + 1)
  unfold pcnt two at *
  rw [dats_append, List.length_append, h1, h2]
theorem add_one (n : Nat) (hn : n < 64) : addP ((n + 1 : Nat) : Int) (chx 1 n []) (n : Int) (-1) 1 0 0 = .ok (chx 1 (n + 1) []) := by
  unfold addP
  rw [if_neg (by omega), if_neg (by omega)]
  cases n with
  | zero =>
    have e : homeP ((0 : Nat) : Int) (chx 1 0 []) = .ok ([], []) := by unfold homeP; rw [if_pos (by simp)]; rfl
    rw [e]
    simp only [List.length_nil]
    rw [if_neg (by omega), if_neg (by rw [chx_cnt]; simp)]
    rfl
  | succ m =>
    obtain ⟨r, h1, h2, h3, h4, h5⟩ := go_found m 1 [] [] [] []
    rw [List.append_nil] at h1
    have e : homeP ((m + 1 : Nat) : Int) (chx 1 (m + 1) []) = .ok (⟨r.pre, r.d, r.post⟩ :: r.C, r.kids) := by
      unfold homeP
      rw [if_neg (by omega)]
      have h1' : fnd ((m + 1 : Nat) : Int) (chx 1 (m + 1) []) = some r := by rw [show m + 1 = 1 + m by omega] at *; exact h1
      rw [h1']
      simp only
      rw [if_pos (by rw [h3]; rfl)]
    rw [e]
    simp only
    rw [h2, List.length_nil, if_neg (by omega), if_neg (by rw [chx_cnt, List.length_cons, h4, List.length_nil]; omega)]
    have h6 := h5 [.mk (gD (1 + (m + 1))) []]
    rw [List.append_nil, List.nil_append, chx_snoc] at h6
    show Except.ok (plugP _ [_]) = _
    have e7 : (Lay.mk (freshD ((m + 1 + 1 : Nat) : Int) 1 0 0) []) = Lay.mk (gD (1 + (m + 1))) [] := by unfold gD; rw [show m + 1 + 1 = 1 + (m + 1) by omega]
    rw [e7, h6]
    rfl
theorem add_full : addP ((65 : Nat) : Int) (chx 1 64 []) 64 (-1) 1 0 0 = .error 31 := by
  unfold addP
  rw [if_neg (by omega), if_neg (by omega)]
  obtain ⟨r, h1, h2, h3, h4, h5⟩ := go_found 63 1 [] [] [] []
  rw [List.append_nil] at h1
  have e : homeP (64 : Int) (chx 1 64 []) = .ok (⟨r.pre, r.d, r.post⟩ :: r.C, r.kids) := by
    unfold homeP
    rw [if_neg (by omega)]
    have h1' : fnd (64 : Int) (chx 1 64 []) = some r := h1
    rw [h1']
    simp only
    rw [if_pos (by rw [h3]; rfl)]
  rw [e]
  simp only
  rw [h2, List.length_nil, if_neg (by omega), if_pos (by right; rw [List.length_cons, h4, List.length_nil]; omega)]
theorem add_none (k : Nat) (hk : 64 < k) : addP ((65 : Nat) : Int) (chx 1 64 []) (k : Int) (-1) 1 0 0 = .error 40 := by
  unfold addP
  rw [if_neg (by omega), if_neg (by omega)]
  have e : homeP (k : Int) (chx 1 64 []) = .error 40 := by
    unfold homeP
    rw [if_neg (by omega)]
    have h1 : fnd (k : Int) (chx 1 64 []) = none := fnd_none.2 (fun d hd e => by have := chx_ids 64 1 d hd; omega)
    rw [h1]
  rw [e]
theorem add_two (n k : Nat) (hn : n ≤ 64) (hk : k ≤ 6) : addP ((n + k + 1 : Nat) : Int) (two n k) (if k = 0 then 0 else ((n + k : Nat) : Int)) (-1) 1 0 0 = .ok (two n (k + 1)) := by
  unfold addP
  rw [if_neg (by omega), if_neg (by omega)]
  cases k with
  | zero =>
    rw [if_pos rfl]
    have e : homeP 0 (two n 0) = .ok ([], two n 0) := by unfold homeP; rw [if_pos rfl]
    rw [e]
    simp only
    rw [if_neg (by omega), if_neg (by rw [two_cnt]; simp; omega)]
    show Except.ok (two n 0 ++ [_]) = _
    unfold two
    rw [chx, List.append_nil]
    rfl
  | succ m =>
    rw [if_neg (by omega)]
    obtain ⟨r, h1, h2, h3, h4, h5⟩ := go_found m (n + 1) [] (chx 1 n []) [] []
    rw [List.append_nil] at h1
    have hid : n + 1 + m = n + (m + 1) := by omega
    rw [hid] at h1 h3
    have e : homeP ((n + (m + 1) : Nat) : Int) (two n (m + 1)) = .ok (⟨r.pre, r.d, r.post⟩ :: r.C, r.kids) := by
      unfold homeP
      rw [if_neg (by omega)]
      have h1' : fnd ((n + (m + 1) : Nat) : Int) (two n (m + 1)) = some r := by
        unfold fnd two
        rw [go_skip _ n 1 [] [] _ (by omega), List.nil_append]
        exact h1
      rw [h1']
      simp only
      rw [if_pos (by rw [h3]; rfl)]
    rw [e]
    simp only
    rw [h2, List.length_nil, if_neg (by omega), if_neg (by rw [two_cnt, List.length_cons, h4, List.length_nil]; omega)]
    have h6 := h5 [.mk (gD (n + 1 + (m + 1))) []]
    rw [List.append_nil, chx_snoc] at h6
    have e7 : (Lay.mk (freshD ((n + (m + 1) + 1 : Nat) : Int) 1 0 0) []) = Lay.mk (gD (n + 1 + (m + 1))) [] := by unfold gD; rw [show n + (m + 1) + 1 = n + 1 + (m + 1) by omega]
    show Except.ok (plugP _ [_]) = _
    rw [e7, h6]
    rfl
theorem move_two (n v : Nat) (hn : n ≤ 64) : ∃ r, moveP (two n (v + 1)) ((n + 1 : Nat) : Int) (n : Int) (-1) = r ∧ (64 < n + v + 1 → r = .error 31) ∧ (¬ 64 < n + v + 1 → ∃ ls', r = .ok ls') := by
  refine ⟨_, rfl, ?_⟩
  have hf : fnd ((n + 1 : Nat) : Int) (two n (v + 1)) = some ⟨[], chx 1 n [], gD (n + 1), chx (n + 2) v [], []⟩ := by
    unfold fnd two
    rw [go_skip _ n 1 [] [] _ (by omega), List.nil_append, chx, go, if_pos (by rw [gD_id])]
  have hh : ∃ C kids, homeP (n : Int) (two n (v + 1)) = .ok (C, kids) ∧ C.length = n ∧ pidOf C = (n : Int) := by
    cases n with
    | zero => exact ⟨[], two 0 (v + 1), by unfold homeP; rw [if_pos (by simp)], rfl, rfl⟩
    | succ m =>
      obtain ⟨r, h1, h2, h3, h4, h5⟩ := go_found m 1 [] [] (chx (m + 1 + 1) (v + 1) []) []
      refine ⟨⟨r.pre, r.d, r.post⟩ :: r.C, r.kids, ?_, by rw [List.length_cons, h4]; simp, ?_⟩
      · unfold homeP
        rw [if_neg (by omega)]
        have h1' : fnd ((m + 1 : Nat) : Int) (two (m + 1) (v + 1)) = some r := by
          unfold fnd two
          rw [show m + 1 = 1 + m by omega] at *
          exact h1
        rw [h1']
        simp only
        rw [if_pos (by rw [h3]; rfl)]
      · show r.d.id = _
        rw [h3, gD_id, show 1 + m = m + 1 by omega]
  obtain ⟨C, kids, e1, e2, e3⟩ := hh
  have hk : fnd (n : Int) (chx (n + 2) v []) = none := fnd_none.2 (fun d hd e => by have := chx_ids v (n + 2) d hd; omega)
  have hl : ∀ m : Int, (kids.length : Int) - (if pidOf ([] : List PFrm) = pidOf C then 1 else 0) < -1 → False := by
    intro m h
    split at h <;> omega
  have hd : heightP 0 (chx (n + 2) v []) = v + 1 := by unfold heightP; rw [deep_chx]; omega
  unfold moveP
  rw [hf]
  simp only
  rw [e1]
  simp only
  rw [if_neg (by rw [gD_id, hk]; simp; omega), if_neg (fun h => h.elim (fun h => by omega) (hl 0)), e2, List.length_nil, hd]
  constructor
  · intro h
    rw [if_pos (by omega)]
  · intro h
    rw [if_neg (by omega)]
    have hr : ∃ C' kids', homeP (n : Int) (plugP [] (chx 1 n [] ++ [])) = .ok (C', kids') := by
      cases n with
      | zero => exact ⟨[], _, by unfold homeP; rw [if_pos (by simp)]⟩
      | succ m =>
        obtain ⟨r, h1, h2, h3, h4, h5⟩ := go_found m 1 [] [] [] []
        refine ⟨⟨r.pre, r.d, r.post⟩ :: r.C, r.kids, ?_⟩
        unfold homeP
        rw [if_neg (by omega)]
        have h1' : fnd ((m + 1 : Nat) : Int) (plugP [] (chx 1 (m + 1) [] ++ [])) = some r := by
          unfold fnd
          rw [show m + 1 = 1 + m by omega] at *
          exact h1
        rw [h1']
        simp only
        rw [if_pos (by rw [h3]; rfl)]
    obtain ⟨C', kids', hr⟩ := hr
    rw [hr]
    exact ⟨_, rfl⟩
end Go.Proofs.Ytfcpbpfemmdklaa
