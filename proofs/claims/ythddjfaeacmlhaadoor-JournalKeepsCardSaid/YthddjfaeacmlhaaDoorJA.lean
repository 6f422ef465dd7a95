/- Records, plain: what they are, what stands in bytes. -/
import Derived.Test.YthddjfaeacmlhaaDoorSA
namespace Go.Proofs.YthddjfaeacmlhaaDoor.Jr
set_option linter.unusedVariables false

def Byte (l : List Nat) : Prop := ∀ x ∈ l, x < 256
theorem Byte.take {l : List Nat} (h : Byte l) (n : Nat) : Byte (l.take n) := fun x hx => h x (List.mem_of_mem_take hx)
theorem Byte.drop {l : List Nat} (h : Byte l) (n : Nat) : Byte (l.drop n) := fun x hx => h x (List.mem_of_mem_drop hx)
theorem Byte.append {l m : List Nat} (h : Byte l) (k : Byte m) : Byte (l ++ m) := fun x hx => (List.mem_append.1 hx).elim (h x) (k x)
theorem Byte.left {l m : List Nat} (h : Byte (l ++ m)) : Byte l := fun x hx => h x (List.mem_append_left _ hx)
theorem Byte.right {l m : List Nat} (h : Byte (l ++ m)) : Byte m := fun x hx => h x (List.mem_append_right _ hx)

/-- A number in four bytes, the highest first. -/
def big4 (n : Nat) : List Nat := [n / 16777216 % 256, n / 65536 % 256, n / 256 % 256, n % 256]
/-- The number of bytes, the highest first. -/
def numb (l : List Nat) : Nat := l.foldl (fun a x => 256 * a + x) 0
theorem big4_length (n : Nat) : (big4 n).length = 4 := rfl
theorem big4_byte (n : Nat) : Byte (big4 n) := by
  intro x hx
  simp only [big4, List.mem_cons, List.not_mem_nil, or_false] at hx
  omega
theorem numb_snoc (l : List Nat) (x : Nat) : numb (l ++ [x]) = 256 * numb l + x := by simp [numb]
theorem numb_nil : numb [] = 0 := rfl
theorem numb_big4 (n : Nat) (h : n < 4294967296) : numb (big4 n) = n := by
  simp only [numb, big4, List.foldl_cons, List.foldl_nil]
  omega
theorem four (l : List Nat) (h : l.length = 4) : ∃ a b c d, l = [a, b, c, d] := by
  match l, h with
  | [a, b, c, d], _ => exact ⟨a, b, c, d, rfl⟩
theorem big4_numb (l : List Nat) (h : l.length = 4) (hb : Byte l) : big4 (numb l) = l := by
  obtain ⟨a, b, c, d, rfl⟩ := four l h
  have ha := hb a (by simp)
  have hb' := hb b (by simp)
  have hc := hb c (by simp)
  have hd := hb d (by simp)
  simp only [numb, big4, List.foldl_cons, List.foldl_nil, List.cons.injEq, and_true]
  omega
theorem numb_lt (l : List Nat) (h : l.length = 4) (hb : Byte l) : numb l < 4294967296 := by
  obtain ⟨a, b, c, d, rfl⟩ := four l h
  have ha := hb a (by simp)
  have hb' := hb b (by simp)
  have hc := hb c (by simp)
  have hd := hb d (by simp)
  simp only [numb, List.foldl_cons, List.foldl_nil]
  omega

/-- A payload's head: its length and itself. -/
def front (p : List Nat) : List Nat := big4 p.length ++ p
def recd (p : List Nat) : List Nat := front p ++ big4 (Sums.crc (front p))
def recs (ls : List (List Nat)) : List Nat := (ls.map recd).flatten
theorem front_length (p : List Nat) : (front p).length = p.length + 4 := by simp [front, big4_length]; omega
theorem recd_length (p : List Nat) : (recd p).length = p.length + 8 := by simp only [recd, List.length_append, front_length, big4_length]
theorem front_byte {p : List Nat} (h : Byte p) : Byte (front p) := (big4_byte _).append h
theorem recd_byte {p : List Nat} (h : Byte p) : Byte (recd p) := (front_byte h).append (big4_byte _)
theorem recs_nil : recs [] = [] := rfl
theorem recs_cons (p : List Nat) (ls : List (List Nat)) : recs (p :: ls) = recd p ++ recs ls := by simp [recs]
theorem recs_append (ls ms : List (List Nat)) : recs (ls ++ ms) = recs ls ++ recs ms := by simp [recs]
theorem recs_one (p : List Nat) : recs [p] = recd p := by simp [recs]
theorem recs_snoc (ls : List (List Nat)) (p : List Nat) : recs (ls ++ [p]) = recs ls ++ recd p := by rw [recs_append, recs_one]

/-- Payloads that records may have. -/
def Fit (p : List Nat) : Prop := p.length ≤ 8388608 ∧ Byte p
theorem recs_byte {ls : List (List Nat)} (h : ∀ p ∈ ls, Fit p) : Byte (recs ls) := by
  induction ls with
  | nil => intro x hx; simp [recs] at hx
  | cons p ls ih =>
    rw [recs_cons]
    exact (recd_byte (h p (by simp)).2).append (ih (fun q hq => h q (by simp [hq])))

/-- The payload of the record that bytes begin with. -/
def head (b : List Nat) : Option (List Nat) :=
  if b.length < 8 then none
  else if 8388608 < numb (b.take 4) ∨ b.length < numb (b.take 4) + 8 then none
  else if numb ((b.drop (4 + numb (b.take 4))).take 4) = Sums.crc (b.take (4 + numb (b.take 4))) then some ((b.drop 4).take (numb (b.take 4)))
  else none
theorem head_small {b : List Nat} (h : b.length < 8) : head b = none := by simp only [head, if_pos h]
theorem head_big {b : List Nat} (h : 8388608 < numb (b.take 4) ∨ b.length < numb (b.take 4) + 8) : head b = none := by
  simp only [head, if_pos h, ite_self]
theorem head_crc {b : List Nat} {n : Nat} (hn : numb (b.take 4) = n) (h : 8 ≤ b.length) (h1 : n ≤ 8388608) (h2 : n + 8 ≤ b.length) :
    head b = if numb ((b.drop (4 + n)).take 4) = Sums.crc (b.take (4 + n)) then some ((b.drop 4).take n) else none := by
  subst hn
  simp only [head]
  rw [if_neg (by omega), if_neg (by omega)]

theorem parts {b : List Nat} {n : Nat} (hb : Byte b) (hn : numb (b.take 4) = n) (h2 : n + 8 ≤ b.length) : b.take (4 + n) = front ((b.drop 4).take n) ∧ ((b.drop 4).take n).length = n := by
  have hl : (b.take 4).length = 4 := by rw [List.length_take]; omega
  have hp : ((b.drop 4).take n).length = n := by rw [List.length_take, List.length_drop]; omega
  refine ⟨?_, hp⟩
  have e := big4_numb (b.take 4) hl (hb.take 4)
  rw [hn] at e
  unfold front
  rw [hp, e, List.take_add]
theorem head_rec {b : List Nat} {n : Nat} (hb : Byte b) (hn : numb (b.take 4) = n) (h1 : n ≤ 8388608) (h2 : n + 8 ≤ b.length) :
    (numb ((b.drop (4 + n)).take 4) = Sums.crc (b.take (4 + n))) ↔ recd ((b.drop 4).take n) = b.take (8 + n) := by
  obtain ⟨e1, e2⟩ := parts hb hn h2
  have hq : ((b.drop (4 + n)).take 4).length = 4 := by rw [List.length_take, List.length_drop]; omega
  have hqb : Byte ((b.drop (4 + n)).take 4) := (hb.drop _).take 4
  have e3 : b.take (8 + n) = front ((b.drop 4).take n) ++ (b.drop (4 + n)).take 4 := by
    rw [← e1, show 8 + n = 4 + n + 4 by omega, List.take_add]
  rw [e3, e1]
  unfold recd
  rw [List.append_cancel_left_eq]
  have hc := Sums.crc_lt (front ((b.drop 4).take n)) (front_byte ((hb.drop 4).take n))
  constructor
  · intro h; rw [← h, big4_numb _ hq hqb]
  · intro h; rw [← h, numb_big4 _ hc]
theorem head_some {b p : List Nat} (hb : Byte b) (h : head b = some p) : Fit p ∧ p.length + 8 ≤ b.length ∧ b.take (8 + p.length) = recd p ∧ numb (b.take 4) = p.length ∧ p = (b.drop 4).take p.length := by
  by_cases h8 : b.length < 8
  · rw [head_small h8] at h; cases h
  · by_cases hg : 8388608 < numb (b.take 4) ∨ b.length < numb (b.take 4) + 8
    · rw [head_big hg] at h; cases h
    · obtain ⟨n, hn⟩ : ∃ n, n = numb (b.take 4) := ⟨_, rfl⟩
      rw [head_crc hn.symm (by omega) (by omega) (by omega)] at h
      split at h
      · rename_i hc
        cases h
        obtain ⟨e1, e2⟩ := parts hb hn.symm (by omega)
        have e3 := (head_rec hb hn.symm (by omega) (by omega)).1 hc
        rw [e2]
        exact ⟨⟨by rw [e2]; omega, (hb.drop 4).take n⟩, by omega, e3.symm, hn.symm, rfl⟩
      · cases h
theorem head_none {b : List Nat} {n : Nat} (hb : Byte b) (hn : numb (b.take 4) = n) (h1 : n ≤ 8388608) (h2 : n + 8 ≤ b.length) (h : ¬ recd ((b.drop 4).take n) = b.take (8 + n)) : head b = none := by
  rw [head_crc hn (by omega) h1 h2, if_neg (fun e => h ((head_rec hb hn h1 h2).1 e))]
theorem head_yes {b : List Nat} {n : Nat} (hb : Byte b) (hn : numb (b.take 4) = n) (h1 : n ≤ 8388608) (h2 : n + 8 ≤ b.length) (h : recd ((b.drop 4).take n) = b.take (8 + n)) : head b = some ((b.drop 4).take n) := by
  rw [head_crc hn (by omega) h1 h2, if_pos ((head_rec hb hn h1 h2).2 h)]
theorem take4 (p x r : List Nat) : ((big4 p.length ++ x) ++ r).take 4 = big4 p.length := by
  rw [List.append_assoc, List.take_append_of_le_length (by rw [big4_length]; omega), List.take_of_length_le (by rw [big4_length]; omega)]
theorem head_recd {p : List Nat} (h : Fit p) (r : List Nat) (hr : Byte r) : head (recd p ++ r) = some p := by
  have hn : numb ((recd p ++ r).take 4) = p.length := by
    have e : recd p ++ r = (big4 p.length ++ p) ++ (big4 (Sums.crc (front p)) ++ r) := by simp [recd, front]
    rw [e, take4, numb_big4 _ (by have := h.1; omega)]
  have e1 : ((recd p ++ r).drop 4).take p.length = p := by
    have e : recd p ++ r = big4 p.length ++ (p ++ (big4 (Sums.crc (front p)) ++ r)) := by simp [recd, front]
    rw [e, List.drop_append_of_le_length (by rw [big4_length]; omega), List.drop_of_length_le (by rw [big4_length]; omega), List.nil_append, List.take_left']
    rfl
  have k := head_yes ((recd_byte h.2).append hr) hn h.1 (by rw [List.length_append, recd_length]; omega) (by
    rw [e1, show 8 + p.length = (recd p).length by rw [recd_length]; omega, List.take_left'] ; rfl)
  rw [e1] at k
  exact k
/-- A record that is cut off is none. -/
theorem head_cut {p : List Nat} (h : Fit p) {t : Nat} (ht : t < (recd p).length) : head ((recd p).take t) = none := by
  rw [recd_length] at ht
  have hl : ((recd p).take t).length = t := by rw [List.length_take, recd_length]; omega
  by_cases h8 : t < 8
  · exact head_small (by omega)
  · have hn : numb (((recd p).take t).take 4) = p.length := by
      have e : recd p = (big4 p.length ++ p) ++ big4 (Sums.crc (front p)) := rfl
      rw [List.take_take, Nat.min_eq_left (by omega), e, take4, numb_big4 _ (by have := h.1; omega)]
    exact head_big (Or.inr (by rw [hl, hn]; omega))

def scanF : Nat → List Nat → List (List Nat) × Nat
  | 0, _ => ([], 0)
  | k + 1, b =>
    match head b with
    | none => ([], 0)
    | some p => (p :: (scanF k (b.drop (8 + p.length))).1, 8 + p.length + (scanF k (b.drop (8 + p.length))).2)
/-- The payloads that stand in bytes, and where the last one ends. -/
def scan (b : List Nat) : List (List Nat) × Nat := scanF (b.length + 1) b
theorem scanF_zero (b : List Nat) : scanF 0 b = ([], 0) := rfl
theorem scanF_none {k : Nat} {b : List Nat} (h : head b = none) : scanF k b = ([], 0) := by
  cases k with
  | zero => rfl
  | succ k => simp only [scanF, h]
theorem scanF_some {k : Nat} {b p : List Nat} (h : head b = some p) : scanF (k + 1) b = (p :: (scanF k (b.drop (8 + p.length))).1, 8 + p.length + (scanF k (b.drop (8 + p.length))).2) := by
  simp only [scanF, h]
theorem scanF_enough {b : List Nat} (hb : Byte b) : ∀ k m : Nat, b.length < k → b.length < m → scanF k b = scanF m b := by
  obtain ⟨n, hn⟩ : ∃ n, n = b.length := ⟨_, rfl⟩
  induction n using Nat.strongRecOn generalizing b with
  | ind n ih =>
    intro k m hk hm
    cases hh : head b with
    | none => rw [scanF_none hh, scanF_none hh]
    | some p =>
      obtain ⟨k, rfl⟩ : ∃ k', k = k' + 1 := ⟨k - 1, by omega⟩
      obtain ⟨m, rfl⟩ : ∃ m', m = m' + 1 := ⟨m - 1, by omega⟩
      have hs := head_some hb hh
      have hl : (b.drop (8 + p.length)).length = b.length - (8 + p.length) := List.length_drop
      rw [scanF_some hh, scanF_some hh, ih (b.drop (8 + p.length)).length (by omega) (hb.drop _) rfl k m (by omega) (by omega)]
theorem scan_none {b : List Nat} (h : head b = none) : scan b = ([], 0) := scanF_none h
theorem scan_some {b p : List Nat} (hb : Byte b) (h : head b = some p) : scan b = (p :: (scan (b.drop (8 + p.length))).1, 8 + p.length + (scan (b.drop (8 + p.length))).2) := by
  have hs := head_some hb h
  have hl : (b.drop (8 + p.length)).length = b.length - (8 + p.length) := List.length_drop
  unfold scan
  rw [scanF_some h, scanF_enough (hb.drop _) b.length ((b.drop (8 + p.length)).length + 1) (by omega) (by omega)]
theorem scan_nil : scan [] = ([], 0) := scan_none (head_small (by simp))

/-- What is found stands at the beginning. -/
theorem scan_found {b : List Nat} (hb : Byte b) : (∀ p ∈ (scan b).1, Fit p) ∧ (scan b).2 ≤ b.length ∧ b.take (scan b).2 = recs (scan b).1 ∧ head (b.drop (scan b).2) = none := by
  obtain ⟨n, hn⟩ : ∃ n, n = b.length := ⟨_, rfl⟩
  induction n using Nat.strongRecOn generalizing b with
  | ind n ih =>
    cases hh : head b with
    | none => rw [scan_none hh]; exact ⟨by simp, by simp, by simp [recs], by simpa using hh⟩
    | some p =>
      have hs := head_some hb hh
      have hl : (b.drop (8 + p.length)).length = b.length - (8 + p.length) := List.length_drop
      obtain ⟨i1, i2, i3, i4⟩ := ih (b.drop (8 + p.length)).length (by omega) (hb.drop _) rfl
      rw [scan_some hb hh]
      generalize scan (b.drop (8 + p.length)) = r at *
      refine ⟨?_, by simp only; omega, ?_, ?_⟩
      · intro q hq
        rcases List.mem_cons.1 hq with rfl | hq
        · exact hs.1
        · exact i1 q hq
      · show b.take (8 + p.length + r.2) = recs (p :: r.1)
        rw [recs_cons, List.take_add, i3, hs.2.2.1]
      · show head (b.drop (8 + p.length + r.2)) = none
        rw [← List.drop_drop]; exact i4
theorem scan_end {b : List Nat} (hb : Byte b) : (scan b).2 = (recs (scan b).1).length := by
  have k := scan_found hb
  rw [← k.2.2.1, List.length_take]
  omega
/-- Records ahead of other bytes. -/
theorem scan_recs {ls : List (List Nat)} (h : ∀ p ∈ ls, Fit p) (r : List Nat) (hr : Byte r) : scan (recs ls ++ r) = (ls ++ (scan r).1, (recs ls).length + (scan r).2) := by
  induction ls with
  | nil => simp [recs]
  | cons p ls ih =>
    have hp := h p (by simp)
    have hls : ∀ q ∈ ls, Fit q := fun q hq => h q (by simp [hq])
    have hrest : Byte (recs ls ++ r) := (recs_byte hls).append hr
    rw [recs_cons, List.append_assoc, scan_some ((recd_byte hp.2).append hrest) (head_recd hp _ hrest)]
    have e : (recd p ++ (recs ls ++ r)).drop (8 + p.length) = recs ls ++ r := by
      rw [show 8 + p.length = (recd p).length by rw [recd_length]; omega, List.drop_left']
      rfl
    rw [e, ih hls]
    simp only [List.cons_append, List.length_append, recd_length, Prod.mk.injEq, true_and]
    omega
theorem scan_all {ls : List (List Nat)} (h : ∀ p ∈ ls, Fit p) : scan (recs ls) = (ls, (recs ls).length) := by
  have k := scan_recs h [] (by intro x hx; cases hx)
  rw [scan_nil, List.append_nil, List.append_nil, Nat.add_zero] at k
  exact k
/-- Records, and behind them bytes that begin with none. -/
theorem scan_then {ls : List (List Nat)} (h : ∀ p ∈ ls, Fit p) {r : List Nat} (hr : Byte r) (hh : head r = none) : scan (recs ls ++ r) = (ls, (recs ls).length) := by
  rw [scan_recs h r hr, scan_none hh, List.append_nil, Nat.add_zero]
theorem head_nil : head [] = none := head_small (by simp)
/-- Records cut off anywhere. -/
theorem scan_cut {ls : List (List Nat)} (h : ∀ p ∈ ls, Fit p) (t : Nat) : ∃ j, j ≤ ls.length ∧ scan ((recs ls).take t) = (ls.take j, (recs (ls.take j)).length) := by
  induction ls generalizing t with
  | nil => exact ⟨0, by simp, by simp [recs, scan_nil]⟩
  | cons p ls ih =>
    have hp := h p (by simp)
    have hls : ∀ q ∈ ls, Fit q := fun q hq => h q (by simp [hq])
    rw [recs_cons]
    by_cases ht : t < (recd p).length
    · refine ⟨0, by simp, ?_⟩
      rw [List.take_append_of_le_length (by omega), scan_none (head_cut hp ht)]
      simp [recs]
    · obtain ⟨j, hj, e⟩ := ih hls (t - (recd p).length)
      refine ⟨j + 1, by simp; omega, ?_⟩
      have hb : Byte ((recs ls).take (t - (recd p).length)) := (recs_byte hls).take _
      rw [List.take_append, List.take_of_length_le (by omega), scan_some ((recd_byte hp.2).append hb) (head_recd hp _ hb)]
      have e2 : (recd p ++ (recs ls).take (t - (recd p).length)).drop (8 + p.length) = (recs ls).take (t - (recd p).length) := by
        rw [show 8 + p.length = (recd p).length by rw [recd_length]; omega, List.drop_left']
        rfl
      rw [e2, e, List.take_succ_cons, recs_cons, List.length_append, recd_length]
      simp only [Prod.mk.injEq, true_and]
      omega
/-- The last record cut off. -/
theorem scan_less {ls : List (List Nat)} {p : List Nat} (h : ∀ q ∈ ls, Fit q) (hp : Fit p) {t : Nat} (ht : t < (recd p).length) : scan (recs ls ++ (recd p).take t) = (ls, (recs ls).length) :=
  scan_then h ((recd_byte hp.2).take t) (head_cut hp ht)
/-- One more record found. -/
theorem scan_step {b : List Nat} (hb : Byte b) {ps : List (List Nat)} {e : Nat} {p : List Nat} (hs : scan b = (ps ++ (scan (b.drop e)).1, e + (scan (b.drop e)).2)) (hh : head (b.drop e) = some p) :
    scan b = ((ps ++ [p]) ++ (scan (b.drop (e + (8 + p.length)))).1, (e + (8 + p.length)) + (scan (b.drop (e + (8 + p.length)))).2) := by
  rw [hs, scan_some (hb.drop e) hh, List.drop_drop]
  simp [Nat.add_assoc]
theorem scan_stop {b : List Nat} {ps : List (List Nat)} {e : Nat} (hs : scan b = (ps ++ (scan (b.drop e)).1, e + (scan (b.drop e)).2)) (hh : head (b.drop e) = none) : scan b = (ps, e) := by
  rw [hs, scan_none hh]; simp
/-- A record whose payload was turned. -/
theorem head_turned {p z : List Nat} (h : Fit p) (hz : Byte z) (hl : z.length = p.length) (hc : Sums.crc (front z) ≠ Sums.crc (front p)) : head (front z ++ big4 (Sums.crc (front p))) = none := by
  have hb : Byte (front z ++ big4 (Sums.crc (front p))) := (front_byte hz).append (big4_byte _)
  have hn : numb ((front z ++ big4 (Sums.crc (front p))).take 4) = z.length := by
    rw [show front z ++ big4 (Sums.crc (front p)) = (big4 z.length ++ z) ++ big4 (Sums.crc (front p)) from rfl, take4, numb_big4 _ (by have := h.1; omega)]
  have e1 : ((front z ++ big4 (Sums.crc (front p))).drop 4).take z.length = z := by
    rw [show front z ++ big4 (Sums.crc (front p)) = big4 z.length ++ (z ++ big4 (Sums.crc (front p))) by simp [front], List.drop_append_of_le_length (by rw [big4_length]; omega), List.drop_of_length_le (by rw [big4_length]; omega), List.nil_append, List.take_left']
    rfl
  refine head_none hb hn (by have := h.1; omega) (by rw [List.length_append, front_length, big4_length]; omega) (fun e => hc ?_)
  rw [e1, List.take_of_length_le (by rw [List.length_append, front_length, big4_length]; omega)] at e
  unfold recd at e
  rw [List.append_cancel_left_eq] at e
  have k1 := Sums.crc_lt (front z) (front_byte hz)
  have k2 := Sums.crc_lt (front p) (front_byte h.2)
  have := congrArg numb e
  rwa [numb_big4 _ k1, numb_big4 _ k2] at this
end Go.Proofs.YthddjfaeacmlhaaDoor.Jr
