/- Texts of a layer, one behind the other. -/
import Derived.Test.YtpmoknnhgginjaaDoorGSa
import Derived.Test.YtpmoknnhgginjaaDoorGSh
/- What stands at a place of a stream is read; plain. -/
namespace Go.Proofs.YtpmoknnhgginjaaDoor.Rt
open Go.RowKit Lzz Ref Pr
set_option linter.unusedVariables false

/-- The bits bs stand from a place on. -/
def Has (ys : List Nat) (at_ : Nat) (bs : List Bool) : Prop := ∃ rest, (Bi.rowOf false ys).drop at_ = bs ++ rest
theorem Has.le {ys : List Nat} {at_ : Nat} {bs : List Bool} (h : Has ys at_ bs) (hb : 0 < bs.length) : at_ + bs.length ≤ 8 * ys.length := by
  obtain ⟨r, e⟩ := h
  have := congrArg List.length e
  rw [List.length_drop, Bi.rowOf_length, List.length_append] at this
  omega
theorem Has.split {ys : List Nat} {at_ : Nat} {a b : List Bool} (h : Has ys at_ (a ++ b)) : Has ys at_ a ∧ Has ys (at_ + a.length) b := by
  obtain ⟨r, e⟩ := h
  refine ⟨⟨b ++ r, by rw [e, List.append_assoc]⟩, ⟨r, ?_⟩⟩
  rw [← List.drop_drop, e, List.append_assoc, List.drop_left]
theorem Has.of_packed (pre bs post : List Bool) : Has (Bi.packedN false (pre ++ bs ++ post)) pre.length bs := by
  obtain ⟨k, hk⟩ := Bi.rowOf_packed false (pre ++ bs ++ post).length (pre ++ bs ++ post) (by omega)
  refine ⟨post ++ List.replicate k false, ?_⟩
  rw [hk, List.append_assoc, List.append_assoc, List.drop_left]
theorem Has.bit {ys : List Nat} {at_ i : Nat} {bs : List Bool} {b : Bool} (h : Has ys at_ bs) (hi : bs[i]? = some b) : bitAt ys (at_ + i) = (if b then 1 else 0) := by
  have hil : i < bs.length := (List.getElem?_eq_some_iff.1 hi).1
  have hle := h.le (by omega)
  obtain ⟨r, e⟩ := h
  have h1 := rowOf_bit ys (at_ + i) (by omega)
  have h2 : (Bi.rowOf false ys)[at_ + i]? = some b := by
    rw [← List.getElem?_drop, e, List.getElem?_append_left hil, hi]
  rw [h1] at h2
  have h3 := bitAt_lt ys (at_ + i)
  cases b
  · have : ¬ bitAt ys (at_ + i) = 1 := by simpa using h2
    simp; omega
  · have : bitAt ys (at_ + i) = 1 := by simpa using h2
    simp [this]
theorem get_has {ys : List Nat} {s : St} {v n : Nat} (h : Has ys s.at_ (Bi.lowr v n)) (hv : v < 2 ^ n) (hs : s.at_ ≤ 8 * ys.length) : Ref.get ys n s = (v, { s with at_ := s.at_ + n }) := by
  have hle : s.at_ + n ≤ 8 * ys.length := by
    by_cases h0 : n = 0
    · omega
    · have := h.le (by rw [Bi.lowr_length]; omega)
      rwa [Bi.lowr_length] at this
  have e1 : Ref.get ys n s = (numAt ys s.at_ n, { s with at_ := s.at_ + n }) := by unfold Ref.get; rw [if_neg (by omega)]
  rw [e1]
  have h2 := num_of_row ys s.at_ n hle
  obtain ⟨r, e⟩ := h
  rw [e, List.take_append_of_le_length (by rw [Bi.lowr_length]; exact Nat.le_refl _), List.take_of_length_le (by rw [Bi.lowr_length]; exact Nat.le_refl _), Bi.lowv_lowr, Nat.mod_eq_of_lt hv] at h2
  rw [← h2]
theorem num_has {ys : List Nat} {s : St} {v n : Nat} (h0 : s.e = 0) (h : Has ys s.at_ (Bi.lowr v n)) (hv : v < 2 ^ n) (hs : s.at_ ≤ 8 * ys.length) : num ys n s = (v, { s with at_ := s.at_ + n }) := by
  rw [num_good _ _ _ h0, get_has h hv hs]

/-- A code's bits, the highest first. -/
def codeBits (C L : Nat) : List Bool := (Bi.lowr C L).reverse
theorem codeBits_length (C L : Nat) : (codeBits C L).length = L := by simp [codeBits, Bi.lowr_length]
theorem lowr_get (v n j : Nat) (hj : j < n) : (Bi.lowr v n)[j]? = some (decide (v / 2 ^ j % 2 = 1)) := by
  induction n generalizing v j with
  | zero => omega
  | succ n ih =>
    cases j with
    | zero => simp [Bi.lowr]
    | succ j =>
      have := ih (v / 2) j (by omega)
      simp only [Bi.lowr, List.getElem?_cons_succ, this]
      rw [Nat.pow_succ, Nat.mul_comm, ← Nat.div_div_eq_div_mul]
theorem codeBits_get (C L j : Nat) (hj : j < L) : (codeBits C L)[j]? = some (decide (C / 2 ^ (L - (j + 1)) % 2 = 1)) := by
  unfold codeBits
  rw [List.getElem?_reverse (by rw [Bi.lowr_length]; exact hj), Bi.lowr_length, show L - 1 - j = L - (j + 1) by omega]
  exact lowr_get C L _ (by omega)

open Hu in
/-- A symbol is read where its code stands. -/
theorem sym_has {ys : List Nat} {zs : List Int} {t L C : Nat} (hm : mayCode zs = true) (ht : t < zs.length) (hL : zs.getD t 0 = (L : Int)) (h0L : 0 < L) (hC : (codesZ zs).getD t 0 = (C : Int)) {s : St} (h0 : s.e = 0) (h : Has ys s.at_ (codeBits C L)) (hs : s.at_ ≤ 8 * ys.length) :
    sym ys (cdOf zs) s = ((t : Int), { s with at_ := s.at_ + L }) := by
  obtain ⟨l, c, T⟩ := tf_of hm
  obtain ⟨q1, q2, q3, q4⟩ := T.at' t ht
  have eL : l t = L := by rw [q1] at hL; omega
  have eC : c t = C := by rw [q3] at hC; omega
  have hle := h.le (by rw [codeBits_length]; exact h0L)
  rw [codeBits_length] at hle
  have hC2 : C < 2 ^ L := by rw [← eC, ← eL]; exact q4 (by omega)
  have key : ∀ k j f, j + k = L → 0 < k → k ≤ f → symFrom ys (cdOf zs) f (j + 1) (C / 2 ^ (L - j)) { s with at_ := s.at_ + j } = ((t : Int), { s with at_ := s.at_ + L }) := by
    intro k
    induction k with
    | zero => intro j f h1 h2; omega
    | succ k ih =>
      intro j f hjk hk0 hf
      obtain ⟨f', rfl⟩ : ∃ f', f = f' + 1 := ⟨f - 1, by omega⟩
      have hjL : j < L := by omega
      have hbit := h.bit (codeBits_get C L j hjL)
      have hg : Ref.get ys 1 { s with at_ := s.at_ + j } = (C / 2 ^ (L - (j + 1)) % 2, { s with at_ := s.at_ + (j + 1) }) := by
        unfold Ref.get
        rw [if_neg (by show ¬ 8 * ys.length < s.at_ + j + 1; omega)]
        have e : numAt ys (s.at_ + j) 1 = C / 2 ^ (L - (j + 1)) % 2 := by
          rw [numAt, numAt, Nat.add_zero, hbit]
          have := Nat.mod_lt (C / 2 ^ (L - (j + 1))) (show 0 < 2 by omega)
          by_cases h1 : C / 2 ^ (L - (j + 1)) % 2 = 1
          · simp [h1]
          · have h2 : C / 2 ^ (L - (j + 1)) % 2 = 0 := by omega
            simp [h2]
        show (numAt ys (s.at_ + j) 1, _) = _
        rw [e]
        rfl
      have hv : 2 * (C / 2 ^ (L - j)) + C / 2 ^ (L - (j + 1)) % 2 = C / 2 ^ (L - (j + 1)) := by
        have e : L - j = (L - (j + 1)) + 1 := by omega
        rw [e, Nat.pow_succ, ← Nat.div_div_eq_div_mul]
        have := Nat.div_add_mod (C / 2 ^ (L - (j + 1))) 2
        omega
      rw [symFrom, hg, if_neg (show ¬ (({ s with at_ := s.at_ + (j + 1) } : St).e ≠ 0) by simp [h0])]
      simp only [hv]
      by_cases hlast : j + 1 = L
      · -- the last bit
        have e0 : C / 2 ^ (L - (j + 1)) = C := by rw [hlast, Nat.sub_self, Nat.pow_zero, Nat.div_one]
        have hf1 : findS zs (codesZ zs) ((j + 1 : Nat) : Int) ((C : Nat) : Int) zs.length = some t := by
          cases hfd : findS zs (codesZ zs) ((j + 1 : Nat) : Int) ((C : Nat) : Int) zs.length with
          | none =>
            exfalso
            have := List.find?_eq_none.1 hfd t (List.mem_range.2 ht)
            simp only [isCode, hL, hC, hlast, beq_self_eq_true, Bool.and_self, not_true_eq_false] at this
          | some x =>
            obtain ⟨k1, k2, k3⟩ := findS_is hfd
            obtain ⟨p1, p2, p3, p4⟩ := T.at' x k1
            rw [p1] at k2
            rw [p3] at k3
            by_cases hx : x = t
            · rw [hx]
            · exfalso
              have ha := T.apart x t k1 ht hx (by omega) (by omega)
              apply ha
              rw [show l x = L by omega]
              unfold Trie.pre
              simp only
              rw [eL, eC, Nat.sub_self, Nat.pow_zero, Nat.div_one]
              omega
        have hf2 : findS (cdOf zs).L (cdOf zs).C ((j + 1 : Nat) : Int) ((C : Nat) : Int) (cdOf zs).L.length = some t := hf1
        rw [e0, hf2, if_pos (show 0 ≤ foundZ (some t) by simp only [foundZ]; omega), hlast]
        rfl
      · have hfn : findS zs (codesZ zs) ((j + 1 : Nat) : Int) ((C / 2 ^ (L - (j + 1)) : Nat) : Int) zs.length = none := by
          cases hfd : findS zs (codesZ zs) ((j + 1 : Nat) : Int) ((C / 2 ^ (L - (j + 1)) : Nat) : Int) zs.length with
          | none => rfl
          | some x =>
            exfalso
            obtain ⟨k1, k2, k3⟩ := findS_is hfd
            obtain ⟨p1, p2, p3, p4⟩ := T.at' x k1
            rw [p1] at k2
            rw [p3] at k3
            have hx : x ≠ t := fun e => by subst e; omega
            apply T.apart x t k1 ht hx (by omega) (by omega)
            rw [show l x = j + 1 by omega]
            unfold Trie.pre
            simp only
            rw [eL, eC]
            omega
        have hbg : beginsS zs (codesZ zs) ((j + 1 : Nat) : Int) ((C / 2 ^ (L - (j + 1)) : Nat) : Int) zs.length = true := by
          refine beginsS_has ht (by rw [hL]; omega) ?_
          rw [hL, hC, show ((L : Int) - ((j + 1 : Nat) : Int)).toNat = L - (j + 1) by omega]
          simp
        have hfn2 : findS (cdOf zs).L (cdOf zs).C ((j + 1 : Nat) : Int) ((C / 2 ^ (L - (j + 1)) : Nat) : Int) (cdOf zs).L.length = none := hfn
        have hbg2 : beginsS (cdOf zs).L (cdOf zs).C ((j + 1 : Nat) : Int) ((C / 2 ^ (L - (j + 1)) : Nat) : Int) (cdOf zs).L.length = true := hbg
        rw [hfn2, hbg2, if_neg (show ¬ 0 ≤ foundZ none by simp only [foundZ]; omega), if_neg (by simp)]
        exact ih (j + 1) f' (by omega) (by omega) (by omega)
  have hL16 : L ≤ 16 := by omega
  have := key L 0 17 (by omega) h0L (by omega)
  rw [show C / 2 ^ (L - 0) = 0 from Nat.div_eq_of_lt (by simpa using hC2)] at this
  exact this
end Go.Proofs.YtpmoknnhgginjaaDoor.Rt

/- Stored blocks are read; plain. -/
namespace Go.Proofs.YtpmoknnhgginjaaDoor.Rt
open Go.RowKit Lzz Ref Pr
set_option linter.unusedVariables false

def bytesBits (xs : List Nat) : List Bool := xs.flatMap (fun x => Bi.lowr x 8)
theorem bytesBits_length (xs : List Nat) : (bytesBits xs).length = 8 * xs.length := by
  induction xs with
  | nil => rfl
  | cons x xs ih => simp only [bytesBits, List.flatMap_cons, List.length_append, Bi.lowr_length, List.length_cons] at *; omega
theorem bytesP_has {ys : List Nat} : ∀ (xs : List Nat) (s : St), s.e = 0 → (∀ x ∈ xs, x < 256) → Has ys s.at_ (bytesBits xs) → s.at_ ≤ 8 * ys.length → bytesP ys xs.length s = { at_ := s.at_ + 8 * xs.length, out := s.out ++ xs, e := 0 } := by
  intro xs
  induction xs with
  | nil => intro s h0 _ _ _; simp [bytesP, ← h0]
  | cons x xs ih =>
    intro s h0 hx h hs
    obtain ⟨h1, h2⟩ := (show Has ys s.at_ (Bi.lowr x 8 ++ bytesBits xs) from h).split
    have hle := h1.le (by rw [Bi.lowr_length]; omega)
    rw [Bi.lowr_length] at h2 hle
    have hn := num_has h0 h1 (hx x (by simp)) hs
    rw [List.length_cons, bytesP, if_neg (by simp [h0]), hn]
    simp only
    rw [ih { at_ := s.at_ + 8, out := s.out ++ [x], e := s.e } h0 (fun y hy => hx y (by simp [hy])) h2 hle]
    simp only [List.append_assoc, List.singleton_append, List.length_cons, St.mk.injEq, and_true]
    omega
theorem xor_ff (N : Nat) (h : N < 65536) : N ^^^ (65535 - N) = 65535 := by
  apply Nat.eq_of_testBit_eq
  intro i
  rw [Nat.testBit_xor, show 65535 - N = 2 ^ 16 - (N + 1) by omega, Nat.testBit_two_pow_sub_succ (by omega), show (65535 : Nat) = 2 ^ 16 - 1 by decide, Nat.testBit_two_pow_sub_one]
  by_cases hi : i < 16
  · simp only [hi, decide_true, Bool.true_and]
    cases N.testBit i <;> rfl
  · have := Nat.testBit_lt_two_pow (x := N) (i := i) (Nat.lt_of_lt_of_le h (Nat.pow_le_pow_right (n := 2) (by omega) (show 16 ≤ i by omega)))
    simp [hi, this]
/-- The bits of a stored block behind a row of so many. -/
def storBits (p last bit : Nat) (xs : List Nat) : List Bool :=
  Bi.lowr last 1 ++ (Bi.lowr 0 2 ++ (List.replicate ((8 - (p + 3) % 8) % 8) (decide (bit % 2 = 1)) ++ (Bi.lowr xs.length 16 ++ (Bi.lowr (65535 - xs.length) 16 ++ bytesBits xs))))
theorem storBits_length (p last bit : Nat) (xs : List Nat) : (storBits p last bit xs).length = 35 + (8 - (p + 3) % 8) % 8 + 8 * xs.length := by
  simp only [storBits, List.length_append, Bi.lowr_length, List.length_replicate, bytesBits_length]
  omega
/-- A stored block is read. -/
theorem stor_round {tab : St → (List Int × List Int) × St} {ys : List Nat} {most : Int} {s : St} {last bit : Nat} {xs : List Nat} (h0 : s.e = 0) (hl : last < 2) (hx : ∀ x ∈ xs, x < 256) (hn : xs.length ≤ 65535) (h : Has ys s.at_ (storBits s.at_ last bit xs)) (hs : s.at_ ≤ 8 * ys.length)
    (hr : ((s.out.length + xs.length : Nat) : Int) ≤ most) : (num ys 1 s).1 = last ∧ (num ys 2 (num ys 1 s).2).1 = 0 ∧ roundM tab ys most s = { at_ := s.at_ + (storBits s.at_ last bit xs).length, out := s.out ++ xs, e := 0 } := by
  have hlen := storBits_length s.at_ last bit xs
  have hle0 := h.le (by omega)
  obtain ⟨h1, h⟩ := h.split
  obtain ⟨h2, h⟩ := h.split
  obtain ⟨_, h⟩ := h.split
  obtain ⟨h4, h⟩ := h.split
  obtain ⟨h5, h6⟩ := h.split
  simp only [Bi.lowr_length, List.length_replicate] at h2 h4 h5 h6
  have n1 := num_has h0 h1 (by omega) hs
  have n2 := num_has (s := { s with at_ := s.at_ + 1 }) h0 h2 (by omega) (by show s.at_ + 1 ≤ _; omega)
  have hal : aligned { s with at_ := s.at_ + 1 + 2 } = { s with at_ := s.at_ + 1 + 2 + (8 - (s.at_ + 3) % 8) % 8 } := by
    unfold aligned
    simp only [St.mk.injEq, and_true]
    omega
  have n3 := num_has (s := { s with at_ := s.at_ + 1 + 2 + (8 - (s.at_ + 3) % 8) % 8 }) h0 h4 (by omega) (by show s.at_ + 1 + 2 + (8 - (s.at_ + 3) % 8) % 8 ≤ _; omega)
  have n4 := num_has (s := { s with at_ := s.at_ + 1 + 2 + (8 - (s.at_ + 3) % 8) % 8 + 16 }) h0 h5 (by omega) (by show s.at_ + 1 + 2 + (8 - (s.at_ + 3) % 8) % 8 + 16 ≤ _; omega)
  have n5 := bytesP_has xs { s with at_ := s.at_ + 1 + 2 + (8 - (s.at_ + 3) % 8) % 8 + 16 + 16 } h0 hx h6 (by show s.at_ + 1 + 2 + (8 - (s.at_ + 3) % 8) % 8 + 16 + 16 ≤ _; omega)
  rw [n1]
  refine ⟨rfl, ?_, ?_⟩
  · show (num ys 2 { s with at_ := s.at_ + 1 }).1 = 0
    rw [n2]
  · unfold roundM
    rw [n1]
    show blockM tab ys most (num ys 2 { s with at_ := s.at_ + 1 }).1 (num ys 2 { s with at_ := s.at_ + 1 }).2 = _
    rw [n2]
    unfold blockM
    rw [if_neg (show ¬ ((({ s with at_ := s.at_ + 1 + 2 } : St)).e ≠ 0) by simp [h0]), if_pos rfl]
    unfold plainP
    rw [hal, n3]
    simp only
    rw [n4]
    simp only
    rw [xor_ff _ (by omega), if_neg (by simp)]
    unfold roomS
    simp only
    rw [if_neg (by omega), n5]
    simp only [St.mk.injEq, and_true, hlen]
    omega
/-- The rows of stored blocks. -/
def storRow (parts : List (List Nat)) (n : Nat) : Nat → List Bool
  | 0 => []
  | i + 1 => storRow parts n i ++ storBits (storRow parts n i).length (if i + 1 = n then 1 else 0) i (parts.getD i [])
theorem storRow_more (parts : List (List Nat)) (n i k : Nat) : ∃ post, storRow parts n (i + k) = storRow parts n i ++ post := by
  induction k with
  | zero => exact ⟨[], by simp⟩
  | succ k ih =>
    obtain ⟨p, e⟩ := ih
    refine ⟨p ++ storBits (storRow parts n (i + k)).length (if i + k + 1 = n then 1 else 0) (i + k) (parts.getD (i + k) []), ?_⟩
    rw [← Nat.add_assoc, storRow, e, List.append_assoc]
/-- Stored blocks, one behind the other, are their bytes. -/
theorem stor_all {T : Prop} {tab : St → (List Int × List Int) × St} {most : Int} (parts : List (List Nat)) (n : Nat) (hn : parts.length = n) (h1 : 1 ≤ n) (hx : ∀ p ∈ parts, ∀ x ∈ p, x < 256) (hp : ∀ p ∈ parts, p.length ≤ 65535) (hm : ((parts.flatten.length : Nat) : Int) ≤ most) :
    ∀ (k i f : Nat), i + k = n → 0 < k → k ≤ f → inflM tab (Bi.packedN false (storRow parts n n)) most f { at_ := (storRow parts n i).length, out := (parts.take i).flatten, e := 0 } = { at_ := (storRow parts n n).length, out := parts.flatten, e := 0 } ∧
      inflOk T tab (Bi.packedN false (storRow parts n n)) most f { at_ := (storRow parts n i).length, out := (parts.take i).flatten, e := 0 } := by
  intro k
  induction k with
  | zero => intro i f h1 h2; omega
  | succ k ih =>
    intro i f hik hk hf
    obtain ⟨f', rfl⟩ : ∃ f', f = f' + 1 := ⟨f - 1, by omega⟩
    have hi : i < parts.length := by omega
    have hmem : parts.getD i [] ∈ parts := List.mem_of_getElem? (by rw [List.getD_eq_getElem?_getD, List.getElem?_eq_getElem hi]; rfl)
    have hget : parts[i]? = some (parts.getD i []) := by rw [List.getD_eq_getElem?_getD, List.getElem?_eq_getElem hi]; rfl
    have htake : (parts.take (i + 1)).flatten = (parts.take i).flatten ++ parts.getD i [] := by
      rw [List.take_add_one, hget]; simp
    obtain ⟨post, hpost⟩ := storRow_more parts n (i + 1) k
    rw [show i + 1 + k = n by omega] at hpost
    have hflat : parts.flatten = (parts.take (i + 1)).flatten ++ (parts.drop (i + 1)).flatten := by rw [← List.flatten_append, List.take_append_drop]
    have hrow : storRow parts n (i + 1) = storRow parts n i ++ storBits (storRow parts n i).length (if i + 1 = n then 1 else 0) i (parts.getD i []) := rfl
    have hhas : Has (Bi.packedN false (storRow parts n n)) (storRow parts n i).length (storBits (storRow parts n i).length (if i + 1 = n then 1 else 0) i (parts.getD i [])) := by
      rw [hpost, hrow]
      exact Has.of_packed _ _ _
    have hsz : (storRow parts n i).length ≤ 8 * (Bi.packedN false (storRow parts n n)).length := by
      rw [Bi.packedN_length, hpost, hrow]
      simp only [List.length_append]
      omega
    obtain ⟨r1, r2, r3⟩ := stor_round (tab := tab) (most := most) (s := { at_ := (storRow parts n i).length, out := (parts.take i).flatten, e := 0 }) rfl (show (if i + 1 = n then 1 else 0) < 2 by split <;> omega) (hx _ hmem) (hp _ hmem) hhas hsz (by
      rw [hflat, htake] at hm
      simp only [List.length_append] at hm
      show (((parts.take i).flatten.length + (parts.getD i []).length : Nat) : Int) ≤ most
      omega)
    have hend : ({ at_ := (storRow parts n i).length + (storBits (storRow parts n i).length (if i + 1 = n then 1 else 0) i (parts.getD i [])).length, out := (parts.take i).flatten ++ parts.getD i [], e := 0 } : St) = { at_ := (storRow parts n (i + 1)).length, out := (parts.take (i + 1)).flatten, e := 0 } := by
      rw [hrow, htake, List.length_append]
    rw [hend] at r3
    rw [inflM, inflOk, r1, r2, r3]
    by_cases hlast : i + 1 = n
    · rw [if_pos hlast, if_neg (by simp), hlast, List.take_of_length_le (by omega)]
      exact ⟨rfl, fun h => absurd h (by omega), fun h => absurd h (by omega)⟩
    · rw [if_neg hlast, if_pos ⟨rfl, rfl⟩]
      obtain ⟨k1, k2⟩ := ih (i + 1) f' (by omega) (by omega) (by omega)
      exact ⟨k1, fun h => absurd h (by omega), fun _ _ => k2⟩
end Go.Proofs.YtpmoknnhgginjaaDoor.Rt

/- The document's examples, plain. -/
namespace Go.Proofs.YtpmoknnhgginjaaDoor.Rt
open Go.RowKit Lzz Ref Pr
set_option linter.unusedVariables false

/-- A literal of a block is read. -/
theorem one_lit {ys : List Nat} {most : Int} {lz : List Int} {dd : Cd} {s : St} {t L C : Nat} (hm : Hu.mayCode lz = true) (ht : t < lz.length) (ht2 : t < 256) (hL : lz.getD t 0 = (L : Int)) (h0L : 0 < L) (hC : (Hu.codesZ lz).getD t 0 = (C : Int)) (h0 : s.e = 0) (h : Has ys s.at_ (codeBits C L)) (hs : s.at_ ≤ 8 * ys.length)
    (hr : ((s.out.length + 1 : Nat) : Int) ≤ most) : Ref.one ys most (cdOf lz) dd s = (true, { s with at_ := s.at_ + L, out := s.out ++ [t] }) := by
  have e := sym_has hm ht hL h0L hC h0 h hs
  unfold Ref.one
  rw [e]
  simp only [Int.toNat_natCast]
  rw [if_neg (by simp [h0]), if_neg (by omega), if_neg (by omega), if_neg (by omega)]
theorem one_end {ys : List Nat} {most : Int} {lz : List Int} {dd : Cd} {s : St} {L C : Nat} (hm : Hu.mayCode lz = true) (ht : 256 < lz.length) (hL : lz.getD 256 0 = (L : Int)) (h0L : 0 < L) (hC : (Hu.codesZ lz).getD 256 0 = (C : Int)) (h0 : s.e = 0) (h : Has ys s.at_ (codeBits C L)) (hs : s.at_ ≤ 8 * ys.length) :
    Ref.one ys most (cdOf lz) dd s = (false, { s with at_ := s.at_ + L }) := by
  have e := sym_has hm ht hL h0L hC h0 h hs
  unfold Ref.one
  rw [e]
  simp only
  rw [if_neg (by simp [h0]), if_pos (by rfl)]
theorem fix_a : (Hu.codesZ fixL).getD 97 0 = ((145 : Nat) : Int) ∧ fixL.getD 97 0 = ((8 : Nat) : Int) := by decide +kernel
theorem fix_end : (Hu.codesZ fixL).getD 256 0 = ((0 : Nat) : Int) ∧ fixL.getD 256 0 = ((7 : Nat) : Int) := by decide +kernel
theorem fix_len : fixL.length = 288 ∧ fixD.length = 32 := by decide +kernel
/-- The example's bits: one block with the fixed codes, an a. -/
def exBits : List Bool := Bi.lowr 1 1 ++ (Bi.lowr 1 2 ++ (codeBits 145 8 ++ codeBits 0 7))
theorem ex_read {T : Prop} {tab : St → (List Int × List Int) × St} {ys : List Nat} {most : Int} (hm : 1 ≤ most) (h : Has ys 0 exBits) (f : Nat) (hf : 1 ≤ f) :
    inflM tab ys most f ⟨0, [], 0⟩ = ⟨18, [97], 0⟩ ∧ inflOk T tab ys most f ⟨0, [], 0⟩ := by
  have hle := h.le (by decide)
  have hl : exBits.length = 18 := by decide
  rw [hl] at hle
  obtain ⟨h1, h⟩ := h.split
  obtain ⟨h2, h⟩ := h.split
  obtain ⟨h3, h4⟩ := h.split
  simp only [Bi.lowr_length, codeBits_length, Nat.zero_add] at h2 h3 h4
  have n1 := num_has (s := ⟨0, [], 0⟩) rfl h1 (by omega) (by simp)
  have n2 := num_has (s := ⟨1, [], 0⟩) rfl h2 (by omega) (by simp; omega)
  have o1 := one_lit (most := most) (dd := cdOf fixD) (s := ⟨3, [], 0⟩) fixL_may (by rw [fix_len.1]; omega) (by omega) fix_a.2 (by omega) fix_a.1 rfl h3 (by simp; omega) (by simp; omega)
  have o2 := one_end (most := most) (dd := cdOf fixD) (s := ⟨11, [97], 0⟩) fixL_may (by rw [fix_len.1]; omega) fix_end.2 (by omega) fix_end.1 rfl h4 (by simp; omega)
  simp only at o1 o2
  obtain ⟨F, hF⟩ : ∃ F, 8 * ys.length + 1 = F + 2 := ⟨8 * ys.length + 1 - 2, by omega⟩
  have hb : blockS ys most (cdOf fixL) (cdOf fixD) (8 * ys.length + 1) ⟨3, [], 0⟩ = ⟨18, [97], 0⟩ := by
    rw [hF, blockS, if_neg (by simp), o1]
    simp only [if_true]
    rw [blockS, if_neg (by simp)]
    show (if (Ref.one ys most (cdOf fixL) (cdOf fixD) ⟨11, [97], 0⟩).1 = true then _ else (Ref.one ys most (cdOf fixL) (cdOf fixD) ⟨11, [97], 0⟩).2) = _
    rw [o2]
    simp
  have hr : roundM tab ys most ⟨0, [], 0⟩ = ⟨18, [97], 0⟩ := by
    unfold roundM
    rw [n1]
    show blockM tab ys most (num ys 2 ⟨1, [], 0⟩).1 (num ys 2 ⟨1, [], 0⟩).2 = _
    rw [n2]
    unfold blockM
    simp only
    rw [if_neg (by simp), if_neg (by omega)]
    simp only [if_true]
    exact hb
  obtain ⟨f', rfl⟩ : ∃ f', f = f' + 1 := ⟨f - 1, by omega⟩
  rw [inflM, inflOk, hr, n1]
  refine ⟨by simp, fun h => ?_, fun h => absurd h (by simp)⟩
  exfalso
  have h' : (num ys 2 ⟨1, [], 0⟩).1 = 2 := h
  rw [n2] at h'
  simp at h'
theorem ex1_has : Has [75, 4, 0, 9] 0 exBits := ⟨(Bi.rowOf false [75, 4, 0, 9]).drop 18, by decide⟩
theorem ex2_has : Has [75, 4, 0, 0, 98, 0, 98] 0 exBits := ⟨(Bi.rowOf false [75, 4, 0, 0, 98, 0, 98]).drop 18, by decide⟩
theorem ex_sum : numB ([120, 156, 75, 4, 0, 0, 98, 0, 98].drop (2 + 3) |>.take 4) = Su.Sums.adler [97] := by decide +kernel
end Go.Proofs.YtpmoknnhgginjaaDoor.Rt

/- A block with the fixed codes: literals and one copy; plain. -/
namespace Go.Proofs.YtpmoknnhgginjaaDoor.Rt
open Go.RowKit Lzz Ref Pr
set_option linter.unusedVariables false

def fL (s : Nat) : Nat := (fixL.getD s 0).toNat
def fC (s : Nat) : Nat := ((Hu.codesZ fixL).getD s 0).toNat
def gC (s : Nat) : Nat := ((Hu.codesZ fixD).getD s 0).toNat
theorem fix_lens : ∀ s, s < 288 → 7 ≤ fixL.getD s 0 ∧ fixL.getD s 0 ≤ 9 := by decide +kernel
theorem fix_dists : ∀ s, s < 32 → fixD.getD s 0 = 5 := by decide +kernel
theorem code_facts {zs : List Int} (hm : Hu.mayCode zs = true) (s : Nat) (hs : s < zs.length) (h0 : 0 < zs.getD s 0) : zs.getD s 0 = ((zs.getD s 0).toNat : Int) ∧ 0 < (zs.getD s 0).toNat ∧ (zs.getD s 0).toNat ≤ 16 ∧ (Hu.codesZ zs).getD s 0 = (((Hu.codesZ zs).getD s 0).toNat : Int) ∧ ((Hu.codesZ zs).getD s 0).toNat < 65536 := by
  obtain ⟨l, c, T⟩ := Hu.tf_of hm
  obtain ⟨q1, q2, q3, q4⟩ := T.at' s hs
  have h := q4 (by omega)
  have hp := Nat.pow_le_pow_right (show 0 < 2 by omega) q2
  rw [q1, q3]
  simp only [Int.toNat_natCast]
  exact ⟨trivial, by omega, q2, trivial, by omega⟩
theorem fL_facts (s : Nat) (hs : s < 288) : fixL.getD s 0 = (fL s : Int) ∧ 0 < fL s ∧ fL s ≤ 16 ∧ (Hu.codesZ fixL).getD s 0 = (fC s : Int) ∧ fC s < 65536 := code_facts fixL_may s (by rw [fix_len.1]; exact hs) (by have := (fix_lens s hs).1; omega)
theorem gC_facts (s : Nat) (hs : s < 32) : fixD.getD s 0 = ((5 : Nat) : Int) ∧ (Hu.codesZ fixD).getD s 0 = (gC s : Int) ∧ gC s < 65536 := by
  have h := code_facts fixD_may s (by rw [fix_len.2]; exact hs) (by rw [fix_dists s hs]; omega)
  exact ⟨fix_dists s hs, h.2.2.2.1, h.2.2.2.2⟩

/-- The symbol whose base is just at or below a number. -/
def selL (n : Nat) : Nat → Nat
  | 0 => 0
  | j + 1 => if n < (lengthP (j + 1)).1 then selL n j else j + 1
def selD (d : Nat) : Nat → Nat
  | 0 => 0
  | t + 1 => if d < (distP (t + 1)).1 then selD d t else t + 1
theorem selL_ok : ∀ n, n < 259 → 3 ≤ n → selL n 28 ≤ 28 ∧ (lengthP (selL n 28)).1 ≤ n ∧ n - (lengthP (selL n 28)).1 < 2 ^ (lengthP (selL n 28)).2 ∧ (lengthP (selL n 28)).2 ≤ 6 := by decide +kernel
theorem selD_ok : ∀ d, d < 1001 → 1 ≤ d → selD d 29 ≤ 29 ∧ (distP (selD d 29)).1 ≤ d ∧ d - (distP (selD d 29)).1 < 2 ^ (distP (selD d 29)).2 ∧ (distP (selD d 29)).2 ≤ 13 := by decide +kernel

/-- So many literals. -/
def leadBits (k : Nat) : List Bool := (List.range k).flatMap fun i => codeBits (fC (i % 251)) (fL (i % 251))
def leadOut (k : Nat) : List Nat := (List.range k).map (· % 251)
theorem leadBits_succ (k : Nat) : leadBits (k + 1) = leadBits k ++ codeBits (fC (k % 251)) (fL (k % 251)) := by
  unfold leadBits; rw [List.range_succ, List.flatMap_append]; simp
theorem leadOut_succ (k : Nat) : leadOut (k + 1) = leadOut k ++ [k % 251] := by
  unfold leadOut; rw [List.range_succ, List.map_append]; rfl
theorem leadOut_length (k : Nat) : (leadOut k).length = k := by simp [leadOut]
theorem leadBits_length (k : Nat) : (leadBits k).length ≤ 16 * k := by
  induction k with
  | zero => simp [leadBits]
  | succ k ih =>
    have := (fL_facts (k % 251) (by omega)).2.2.1
    rw [leadBits_succ, List.length_append, codeBits_length]
    omega
theorem leadBits_ge (k : Nat) : k ≤ (leadBits k).length := by
  induction k with
  | zero => omega
  | succ k ih =>
    have := (fL_facts (k % 251) (by omega)).2.1
    rw [leadBits_succ, List.length_append, codeBits_length]
    omega
/-- All bits. -/
def copyBits (n d lead : Nat) : List Bool :=
  Bi.lowr 3 3 ++ (leadBits lead ++ (codeBits (fC (257 + selL n 28)) (fL (257 + selL n 28)) ++ (Bi.lowr (n - (lengthP (selL n 28)).1) (lengthP (selL n 28)).2 ++
    (codeBits (gC (selD d 29)) 5 ++ (Bi.lowr (d - (distP (selD d 29)).1) (distP (selD d 29)).2 ++ codeBits (fC 256) (fL 256))))))
theorem blockS_leads {ys : List Nat} {most : Int} {dd : Cd} {at0 : Nat} {rest : List Bool} (lead : Nat) (h : Has ys at0 (leadBits lead ++ rest)) (ha : at0 ≤ 8 * ys.length) (hm : (lead : Int) ≤ most) :
    ∀ k f, k ≤ lead → blockS ys most (cdOf fixL) dd (k + f) ⟨at0, [], 0⟩ = blockS ys most (cdOf fixL) dd f ⟨at0 + (leadBits k).length, leadOut k, 0⟩ := by
  intro k
  induction k with
  | zero => intro f _; simp [leadBits, leadOut]
  | succ k ih =>
    intro f hk
    have hsp : ∃ t, leadBits lead = leadBits k ++ (codeBits (fC (k % 251)) (fL (k % 251)) ++ t) := by
      have : ∀ j, ∃ t, leadBits (k + 1 + j) = leadBits (k + 1) ++ t := by
        intro j
        induction j with
        | zero => exact ⟨[], by simp⟩
        | succ j ih =>
          obtain ⟨t, e⟩ := ih
          exact ⟨t ++ codeBits (fC ((k + 1 + j) % 251)) (fL ((k + 1 + j) % 251)), by rw [← Nat.add_assoc, leadBits_succ, e, List.append_assoc]⟩
      obtain ⟨t, e⟩ := this (lead - (k + 1))
      rw [show k + 1 + (lead - (k + 1)) = lead by omega, leadBits_succ, List.append_assoc] at e
      exact ⟨t, e⟩
    obtain ⟨t, ht⟩ := hsp
    have h' := h
    rw [ht, List.append_assoc, List.append_assoc] at h'
    have hc := h'.split.2.split.1
    obtain ⟨q1, q2, q3, q4, q5⟩ := fL_facts (k % 251) (by omega)
    have hle : at0 + (leadBits k).length ≤ 8 * ys.length := by
      have := hc.le (by rw [codeBits_length]; exact q2)
      omega
    have o := one_lit (most := most) (dd := dd) (s := ⟨at0 + (leadBits k).length, leadOut k, 0⟩) fixL_may (by rw [fix_len.1]; omega) (show k % 251 < 256 by omega) q1 q2 q4 rfl hc hle (by simp only [leadOut_length]; omega)
    rw [show k + 1 + f = k + (f + 1) by omega, ih (f + 1) (by omega), blockS, if_neg (by simp), o]
    simp only [if_true, leadBits_succ, leadOut_succ, List.length_append, codeBits_length, Nat.add_assoc]
theorem copies_read {T : Prop} {tab : St → (List Int × List Int) × St} (n d lead : Nat) (hn : 3 ≤ n ∧ n ≤ 258) (hd : 1 ≤ d ∧ d ≤ 1000) (hlead : lead ≤ 1000) (f : Nat) (hf : 1 ≤ f) :
    (d ≤ lead → inflM tab (Bi.packedN false (copyBits n d lead)) (2000 : Nat) f ⟨0, [], 0⟩ = ⟨(copyBits n d lead).length, copyN d n (leadOut lead), 0⟩) ∧
    (lead < d → (inflM tab (Bi.packedN false (copyBits n d lead)) (2000 : Nat) f ⟨0, [], 0⟩).e = 22) ∧ inflOk T tab (Bi.packedN false (copyBits n d lead)) (2000 : Nat) f ⟨0, [], 0⟩ := by
  have hlen : (Bi.packedN false (copyBits n d lead)).length = ((copyBits n d lead).length + 7) / 8 := Bi.packedN_length _ _
  have h0 : Has (Bi.packedN false (copyBits n d lead)) 0 (copyBits n d lead) := by
    have := Has.of_packed [] (copyBits n d lead) []
    simpa using this
  generalize hys : Bi.packedN false (copyBits n d lead) = ys at *
  have hsz : (copyBits n d lead).length ≤ 8 * ys.length := by omega
  have hcl : (copyBits n d lead).length = 3 + ((leadBits lead).length + (fL (257 + selL n 28) + ((lengthP (selL n 28)).2 + (5 + ((distP (selD d 29)).2 + fL 256))))) := by
    simp only [copyBits, List.length_append, Bi.lowr_length, codeBits_length]
  rw [hcl] at hsz ⊢
  obtain ⟨s1, s2, s3, s4⟩ := selL_ok n (by omega) hn.1
  obtain ⟨t1, t2, t3, t4⟩ := selD_ok d (by omega) hd.1
  have hdp := distP_bd (selD d 29) t1
  unfold copyBits at h0
  generalize selL n 28 = j at *
  generalize selD d 29 = t at *
  obtain ⟨h1, h0⟩ := h0.split
  have hlead0 := h0
  obtain ⟨_, h0⟩ := h0.split
  obtain ⟨h3, h0⟩ := h0.split
  obtain ⟨h4, h0⟩ := h0.split
  obtain ⟨h5, h0⟩ := h0.split
  obtain ⟨h6, h7⟩ := h0.split
  simp only [Bi.lowr_length, codeBits_length, Nat.zero_add] at hlead0 h3 h4 h5 h6 h7
  have hsp : Bi.lowr 3 3 = Bi.lowr 1 1 ++ Bi.lowr 1 2 := by decide
  rw [hsp] at h1
  obtain ⟨h1a, h1b⟩ := h1.split
  simp only [Bi.lowr_length, Nat.zero_add] at h1b
  obtain ⟨lb, hlb⟩ : ∃ lb, lb = (leadBits lead).length := ⟨_, rfl⟩
  have hge := leadBits_ge lead
  rw [← hlb] at h3 h4 h5 h6 h7 hsz hge ⊢
  obtain ⟨c1, c2, c3, c4, c5⟩ := fL_facts (257 + j) (by omega)
  obtain ⟨g1, g2, g3⟩ := gC_facts t (by omega)
  obtain ⟨e1, e2, e3, e4, e5⟩ := fL_facts 256 (by omega)
  have n1 := num_has (s := ⟨0, [], 0⟩) rfl h1a (by omega) (by simp)
  have n2 := num_has (s := ⟨1, [], 0⟩) rfl h1b (by omega) (by simp only; omega)
  obtain ⟨F, hF⟩ : ∃ F, 8 * ys.length + 1 = lead + (F + 2) := ⟨8 * ys.length + 1 - lead - 2, by omega⟩
  have hbl := blockS_leads (most := ((2000 : Nat) : Int)) (dd := cdOf fixD) lead hlead0 (by omega) (by omega) lead (F + 2) (Nat.le_refl _)
  rw [← hlb] at hbl
  have hlo := leadOut_length lead
  generalize leadOut lead = lo at *
  -- the copy
  have y1 := sym_has (s := ⟨3 + lb, lo, 0⟩) fixL_may (by rw [fix_len.1]; omega) c1 c2 c4 rfl h3 (by simp only; omega)
  have y2 := get_has (s := ⟨3 + lb + fL (257 + j), lo, 0⟩) h4 s3 (by simp only; omega)
  have y3 := sym_has (s := ⟨3 + lb + fL (257 + j) + (lengthP j).2, lo, 0⟩) fixD_may (by rw [fix_len.2]; omega) g1 (by omega) g2 rfl h5 (by simp only; omega)
  have y4 := get_has (s := ⟨3 + lb + fL (257 + j) + (lengthP j).2 + 5, lo, 0⟩) h6 t3 (by simp only; omega)
  simp only at y1 y2 y3 y4
  have hcopy : Ref.one ys ((2000 : Nat) : Int) (cdOf fixL) (cdOf fixD) ⟨3 + lb, lo, 0⟩ = (true, copyLast ((2000 : Nat) : Int) n d ⟨3 + lb + fL (257 + j) + (lengthP j).2 + 5 + (distP t).2, lo, 0⟩) := by
    unfold Ref.one
    rw [y1]
    simp only [Int.toNat_natCast]
    rw [if_neg (by simp), if_neg (by omega), if_pos (by omega)]
    unfold copyS
    rw [if_neg (by omega), show 257 + j - 257 = j by omega, y2]
    simp only
    rw [if_neg (by simp), y3]
    unfold copyFar
    simp only [Int.toNat_natCast]
    rw [if_neg (by simp), if_neg (by omega), y4]
    simp only
    rw [if_neg (by simp), show (lengthP j).1 + (n - (lengthP j).1) = n by omega, show (distP t).1 + (d - (distP t).1) = d by omega]
  have hr : ∀ fin, blockS ys ((2000 : Nat) : Int) (cdOf fixL) (cdOf fixD) (F + 2) ⟨3 + lb, lo, 0⟩ = fin → roundM tab ys ((2000 : Nat) : Int) ⟨0, [], 0⟩ = fin := by
    intro fin hfin
    unfold roundM
    rw [n1]
    show blockM tab ys ((2000 : Nat) : Int) (num ys 2 ⟨1, [], 0⟩).1 (num ys 2 ⟨1, [], 0⟩).2 = _
    rw [n2]
    unfold blockM
    simp only
    rw [if_neg (by simp), if_neg (by omega)]
    simp only [if_true]
    rw [hF, hbl]
    exact hfin
  obtain ⟨f', rfl⟩ : ∃ f', f = f' + 1 := ⟨f - 1, by omega⟩
  have hinf : ∀ fin, roundM tab ys ((2000 : Nat) : Int) ⟨0, [], 0⟩ = fin → inflM tab ys ((2000 : Nat) : Int) (f' + 1) ⟨0, [], 0⟩ = fin := by
    intro fin hfin
    rw [inflM, hfin, n1, if_neg (by simp)]
  refine ⟨fun hle => ?_, fun hgt => ?_, ?_, fun h => ?_⟩
  · apply hinf
    apply hr
    have hcl2 : copyLast ((2000 : Nat) : Int) n d ⟨3 + lb + fL (257 + j) + (lengthP j).2 + 5 + (distP t).2, lo, 0⟩ = ⟨3 + lb + fL (257 + j) + (lengthP j).2 + 5 + (distP t).2, copyN d n lo, 0⟩ := by
      unfold copyLast
      simp only
      rw [if_neg (by omega), if_neg (by omega)]
    rw [blockS, if_neg (by simp), hcopy]
    simp only [if_true]
    rw [hcl2, blockS, if_neg (by simp)]
    have o2 := one_end (most := ((2000 : Nat) : Int)) (dd := cdOf fixD) (s := ⟨3 + lb + fL (257 + j) + (lengthP j).2 + 5 + (distP t).2, copyN d n lo, 0⟩) fixL_may (by rw [fix_len.1]; omega) e1 e2 e4 rfl h7 (by simp only; omega)
    rw [o2]
    simp only [Bool.false_eq_true, if_false, St.mk.injEq, and_true, true_and]
    omega
  · have hcl2 : copyLast ((2000 : Nat) : Int) n d ⟨3 + lb + fL (257 + j) + (lengthP j).2 + 5 + (distP t).2, lo, 0⟩ = ⟨3 + lb + fL (257 + j) + (lengthP j).2 + 5 + (distP t).2, lo, 22⟩ := by
      unfold copyLast
      simp only
      rw [if_pos (by omega)]
      rfl
    have hb : blockS ys ((2000 : Nat) : Int) (cdOf fixL) (cdOf fixD) (F + 2) ⟨3 + lb, lo, 0⟩ = ⟨3 + lb + fL (257 + j) + (lengthP j).2 + 5 + (distP t).2, lo, 22⟩ := by
      rw [blockS, if_neg (by simp), hcopy]
      simp only [if_true]
      rw [hcl2, blockS_stop _ _ _ _ _ _ (by simp)]
    rw [hinf _ (hr _ hb)]
  · intro h
    exfalso
    rw [n1] at h
    have h' : (num ys 2 ⟨1, [], 0⟩).1 = 2 := h
    rw [n2] at h'
    simp at h'
  · intro _
    exfalso
    rw [n1] at h
    exact absurd h (by simp)
end Go.Proofs.YtpmoknnhgginjaaDoor.Rt
