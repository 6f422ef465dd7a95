/- Texts of a layer, one behind the other. -/
import Derived.Test.YtpmoknnhgginjaaDoorGSc
import Derived.Test.YtpmoknnhgginjaaDoorGSd
/- The document's reading of a stream, step by step, as plain data. -/
namespace Go.Proofs.YtpmoknnhgginjaaDoor.Ref

/-- Bit i of bytes, the lowest first. -/
def bitAt (ys : List Nat) (i : Nat) : Nat := ys.getD (i / 8) 0 / 2 ^ (i % 8) % 2
/-- n bits from a place on, as a number. -/
def numAt (ys : List Nat) (at_ : Nat) : Nat → Nat
  | 0 => 0
  | n + 1 => numAt ys at_ n + bitAt ys (at_ + n) * 2 ^ n
theorem bitAt_lt (ys : List Nat) (i : Nat) : bitAt ys i < 2 := Nat.mod_lt _ (by omega)
theorem numAt_lt (ys : List Nat) (at_ n : Nat) : numAt ys at_ n < 2 ^ n := by
  induction n with
  | zero => simp [numAt]
  | succ n ih =>
    have h := bitAt_lt ys (at_ + n)
    rw [numAt, Nat.pow_succ]
    have : bitAt ys (at_ + n) * 2 ^ n ≤ 1 * 2 ^ n := Nat.mul_le_mul_right _ (by omega)
    omega
theorem numAt_le (ys : List Nat) (at_ n k : Nat) (h : k ≤ n) : numAt ys at_ k ≤ numAt ys at_ n := by
  induction n with
  | zero => rw [show k = 0 by omega]; exact Nat.le_refl _
  | succ n ih =>
    by_cases hk : k = n + 1
    · rw [hk]; exact Nat.le_refl _
    · have := ih (by omega)
      rw [numAt]
      omega

/-- Where the reading stands, what came out, the first error. -/
structure St where
  at_ : Nat
  out : List Nat
  e : Int
/-- An error: the first one stays. -/
def St.fail (s : St) (e : Int) : St := if s.e = 0 then { s with e := e } else s
/-- n bits. -/
def get (ys : List Nat) (n : Nat) (s : St) : Nat × St :=
  if 8 * ys.length < s.at_ + n then (0, s.fail 20) else (numAt ys s.at_ n, { s with at_ := s.at_ + n })
end Go.Proofs.YtpmoknnhgginjaaDoor.Ref

/- The document's reader of a stream in memory; fail and get. -/
namespace Go.Proofs.YtpmoknnhgginjaaDoor.Ref
open Go.RowKit Lzz
set_option linter.unusedVariables false

/-- What is kept. -/
def Kept (K : Nat → Prop) (w w' : World) : Prop := ∀ k, K k → w'.heap[k]? = w.heap[k]?
theorem Kept.refl (K : Nat → Prop) (w : World) : Kept K w w := fun _ _ => rfl
theorem Kept.trans {K : Nat → Prop} {a b c : World} (h : Kept K a b) (g : Kept K b c) : Kept K a c := fun k hk => (g k hk).trans (h k hk)
variable {w0 w w2 : World} {P n c : Nat} {a : Option Addr} {ys : List Nat} {most : Int} {K : Nat → Prop} {s : St}
/-- A byte's bit, as it is reckoned. -/
theorem bit_of (y j : Nat) : ((y : Int) / 2 ^ j) % 2 = ((y / 2 ^ j % 2 : Nat) : Int) := by simp

end Go.Proofs.YtpmoknnhgginjaaDoor.Ref

/- The document's symbol: read bit by bit. -/
namespace Go.Proofs.YtpmoknnhgginjaaDoor.Ref
open Go.RowKit Lzz
set_option linter.unusedVariables false
variable {w0 w w2 : World} {P n c : Nat} {a : Option Addr} {ys : List Nat} {most : Int} {K : Nat → Prop} {s : St}

/-- Beside what is kept, one block more. -/
def And1 (K : Nat → Prop) (B k : Nat) : Prop := K k ∨ k = B
theorem Kept.weaker {K K' : Nat → Prop} (h : Kept K w w2) (hk : ∀ k, K' k → K k) : Kept K' w w2 := fun k h' => h k (hk k h')

/-- A code: lengths, codes, the weight, whether they are. -/
structure Cd where
  L : List Int
  C : List Int
  W : Int
  ok : Bool
/-- A code in memory that is kept. -/
structure CodeIn (K : Nat → Prop) (w : World) (v : Value) (cd : Cd) : Prop where
  val : ∃ aL cL aC cC, v = .agg #[.slice aL cd.L.length cL, .slice aC cd.C.length cC, .int .i64 cd.W, .bool cd.ok] ∧ Hu.Ints w aL cd.L.length cd.L ∧ Hu.Ints w aC cd.C.length cd.C ∧ (∀ x, aL = some x → K x.block) ∧ ∀ x, aC = some x → K x.block
theorem ints_keep {w w' : World} {b : Option Addr} {m : Nat} {zs : List Int} (h : Hu.Ints w b m zs) (hk : ∀ x, b = some x → w'.heap[x.block]? = w.heap[x.block]?) : Hu.Ints w' b m zs := by
  obtain ⟨h1, h2, h3⟩ := h
  refine ⟨h1, h2, fun hp => ?_⟩
  obtain ⟨b', off, e, hc⟩ := h3 hp
  have hb : w'.heap[b']? = w.heap[b']? := hk _ e
  exact ⟨b', off, e, fun j y hj => (World.cell?_of_block (w := w) hb).trans (hc j y hj)⟩
theorem CodeIn.keep {v : Value} {cd : Cd} (h : CodeIn K w v cd) (hk : Kept K w w2) : CodeIn K w2 v cd := by
  obtain ⟨aL, cL, aC, cC, h1, h2, h3, h4, h5⟩ := h.val
  exact ⟨aL, cL, aC, cC, h1, ints_keep h2 (fun x hx => hk _ (h4 x hx)), ints_keep h3 (fun x hx => hk _ (h5 x hx)), h4, h5⟩
/-- A code that can be read by. -/
def Sound (cd : Cd) : Prop := cd.L.length ≤ cd.C.length ∧ cd.L.length ≤ 16777216 ∧ ∀ z ∈ cd.L, z ≤ 16

/-- A symbol, read from its n-th bit on. -/
def symFrom (ys : List Nat) (cd : Cd) : Nat → Nat → Nat → St → Int × St
  | 0, _, _, s => (0, s.fail 21)
  | f + 1, m, v, s =>
    if (get ys 1 s).2.e ≠ 0 then (0, (get ys 1 s).2)
    else if 0 ≤ Hu.foundZ (Hu.findS cd.L cd.C m ((2 * v + (get ys 1 s).1 : Nat) : Int) cd.L.length) then (Hu.foundZ (Hu.findS cd.L cd.C m ((2 * v + (get ys 1 s).1 : Nat) : Int) cd.L.length), (get ys 1 s).2)
    else if Hu.beginsS cd.L cd.C m ((2 * v + (get ys 1 s).1 : Nat) : Int) cd.L.length = false then (0, (get ys 1 s).2.fail 21)
    else symFrom ys cd f (m + 1) (2 * v + (get ys 1 s).1) (get ys 1 s).2
def sym (ys : List Nat) (cd : Cd) (s : St) : Int × St := symFrom ys cd 17 1 0 s
theorem get_one (ys : List Nat) (s : St) : (get ys 1 s).1 < 2 := by
  unfold get
  split
  · simp
  · exact numAt_lt ys s.at_ 1

end Go.Proofs.YtpmoknnhgginjaaDoor.Ref

/- What comes out, a byte more; the document's block of kind 0. -/
namespace Go.Proofs.YtpmoknnhgginjaaDoor.Ref
open Go.RowKit Lzz
set_option linter.unusedVariables false
variable {w0 w w2 : World} {P n c : Nat} {a : Option Addr} {ys : List Nat} {most : Int} {K : Nat → Prop} {s : St}

/-- What comes out, as it lies. -/
structure Out (w0 : World) (P : Nat) (K : Nat → Prop) (s : St) (w : World) (aa : Option Addr) (cap : Nat) : Prop where
  cell : w.cell? ⟨P, 2, none⟩ = some (.slice aa s.out.length cap)
  own : w.ownsRow w0.heap.size 5 1 (.slice aa s.out.length cap) s.out.length (bys s.out)
  apart : (Value.slice aa s.out.length cap).ownBlock ≠ some P
theorem i64_and_nat (a b : Nat) (ha : a < 9223372036854775808) (hb : b < 9223372036854775808) : bits .and .i64 (a : Int) (b : Int) = ((a &&& b : Nat) : Int) := by
  have hx : a &&& b < 2 ^ 63 := Nat.and_lt_two_pow _ (by omega)
  show IntKind.i64.wrap ((BitVec.ofInt 64 (a : Int) &&& BitVec.ofInt 64 (b : Int)).toNat : Int) = _
  rw [BitVec.toNat_and, BitVec.toNat_ofInt, BitVec.toNat_ofInt]
  rw [show ((a : Int) % (2 ^ 64 : Nat)).toNat = a by omega, show ((b : Int) % (2 ^ 64 : Nat)).toNat = b by omega, wrap_i64 _ (by omega) (by omega)]

/-- So many bytes, one behind the other. -/
def bytesIn (ys : List Nat) : Nat → St → St
  | 0, s => s
  | k + 1, s => if (get ys 8 s).2.e ≠ 0 then (get ys 8 s).2 else bytesIn ys k { (get ys 8 s).2 with out := (get ys 8 s).2.out ++ [(get ys 8 s).1] }
def aligned (s : St) : St := { s with at_ := (s.at_ + 7) / 8 * 8 }
/-- A block of kind 0. -/
def plainS (ys : List Nat) (most : Int) (s : St) : St :=
  if (get ys 16 (get ys 16 (aligned s)).2).2.e ≠ 0 then (get ys 16 (get ys 16 (aligned s)).2).2
  else if (get ys 16 (aligned s)).1 + (get ys 16 (get ys 16 (aligned s)).2).1 ≠ 65535 ∨ (get ys 16 (aligned s)).1 &&& (get ys 16 (get ys 16 (aligned s)).2).1 ≠ 0 then (get ys 16 (get ys 16 (aligned s)).2).2.fail 25
  else if most < ((get ys 16 (get ys 16 (aligned s)).2).2.out.length + (get ys 16 (aligned s)).1 : Nat) then (get ys 16 (get ys 16 (aligned s)).2).2.fail 24
  else bytesIn ys (get ys 16 (aligned s)).1 (get ys 16 (get ys 16 (aligned s)).2).2
end Go.Proofs.YtpmoknnhgginjaaDoor.Ref

/- The walk of the document's block of kind 0. -/
namespace Go.Proofs.YtpmoknnhgginjaaDoor.Ref
open Go.RowKit Lzz
set_option linter.unusedVariables false
variable {w0 w w2 : World} {P n c : Nat} {a : Option Addr} {ys : List Nat} {most : Int} {K : Nat → Prop} {s : St}

theorem get_lt (ys : List Nat) (k : Nat) (s : St) : (get ys k s).1 < 2 ^ k := by
  unfold get
  split
  · exact Nat.two_pow_pos k
  · exact numAt_lt ys s.at_ k
theorem get_out (ys : List Nat) (k : Nat) (s : St) : (get ys k s).2.out = s.out := by
  unfold get St.fail
  split
  · split <;> rfl
  · rfl

end Go.Proofs.YtpmoknnhgginjaaDoor.Ref

/- The document's bases and extra bits. -/
namespace Go.Proofs.YtpmoknnhgginjaaDoor.Ref
open Go.RowKit Lzz
set_option linter.unusedVariables false

/-- A length's extra bits, by its symbol above 256. -/
def extraP (j : Nat) : Nat := if j < 8 then 0 else (j - 4) / 4
def lenB : Nat → Nat
  | 0 => 3
  | j + 1 => lenB j + 2 ^ extraP j
/-- Base and extra bits of the length's symbol 257 + j. -/
def lengthP (j : Nat) : Nat × Nat := if j = 28 then (258, 0) else (lenB j, extraP j)
def farP (t : Nat) : Nat := if t < 4 then 0 else (t - 2) / 2
def distB : Nat → Nat
  | 0 => 1
  | t + 1 => distB t + 2 ^ farP t
def distP (t : Nat) : Nat × Nat := (distB t, farP t)
theorem extraP_le (j : Nat) (h : j ≤ 28) : extraP j ≤ 6 := by unfold extraP; split <;> omega
theorem farP_le (t : Nat) (h : t ≤ 29) : farP t ≤ 13 := by unfold farP; split <;> omega
theorem lenB_le : ∀ j, j ≤ 28 → lenB j ≤ 300 := by decide
theorem distB_le : ∀ t, t ≤ 30 → distB t ≤ 32769 := by decide

set_option maxHeartbeats 800000 in
theorem extra_any (w : World) (j : Nat) (hj : j ≤ 28) : Calls Tryd.prog 25 #[.int .i64 ((257 + j : Nat) : Int)] w fun e w' => e = .returned (.int .i64 (extraP j : Nat)) ∧ w' = w := by
  obtain ⟨s, hs⟩ : ∃ s, s = 257 + j := ⟨_, rfl⟩
  rw [← hs]
  by_cases h : s < 265
  · have e : extraP j = 0 := by unfold extraP; rw [if_pos (by omega)]
    have u : decide ((s : Int) < 265) = true := by simp; omega
    rw [e]
    clear hs e
    go_enter Tryd.func25, Tryd.ntmps25
    go_wp2_with fail
    go_ret
    exact ⟨rfl, rfl⟩
  · obtain ⟨x, hx⟩ : ∃ x, x = extraP j := ⟨_, rfl⟩
    have e : x = (s - 261) / 4 := by rw [hx]; unfold extraP; rw [if_neg (by omega)]; omega
    have u : decide ((s : Int) < 265) = false := by simp; omega
    have e2 : ((s : Int) - 261) / 4 = (x : Int) := by omega
    have hs3 : s ≤ 285 := by omega
    rw [← hx]
    have E2 := Lib.hid e2
    clear hs hx e e2
    go_enter Tryd.func25, Tryd.ntmps25
    go_wp2_with fail
    go_ret
    exact ⟨by rw [← E2.out]; rfl, rfl⟩
set_option maxHeartbeats 800000 in
theorem far_any (w : World) (t : Nat) (ht : t ≤ 29) : Calls Tryd.prog 26 #[.int .i64 (t : Nat)] w fun e w' => e = .returned (.int .i64 (farP t : Nat)) ∧ w' = w := by
  by_cases h : t < 4
  · have e : farP t = 0 := by unfold farP; rw [if_pos h]
    have u : decide ((t : Int) < 4) = true := by simp; omega
    rw [e]
    clear e
    go_enter Tryd.func26, Tryd.ntmps26
    go_wp2_with fail
    go_ret
    exact ⟨rfl, rfl⟩
  · obtain ⟨x, hx⟩ : ∃ x, x = farP t := ⟨_, rfl⟩
    have e : x = (t - 2) / 2 := by rw [hx]; unfold farP; rw [if_neg h]
    have u : decide ((t : Int) < 4) = false := by simp; omega
    have e2 : ((t : Int) - 2) / 2 = (x : Int) := by omega
    rw [← hx]
    have E2 := Lib.hid e2
    clear hx e e2
    go_enter Tryd.func26, Tryd.ntmps26
    go_wp2_with fail
    go_ret
    exact ⟨by rw [← E2.out]; rfl, rfl⟩

theorem pow_cast (x : Nat) : ((2 : Int) ^ x) = ((2 ^ x : Nat) : Int) := by simp
set_option maxHeartbeats 1600000 in
theorem length_any (w : World) (j : Nat) (hj : j ≤ 28) : Calls Tryd.prog 14 #[.int .i64 ((257 + j : Nat) : Int)] w fun e w' => e = .returned (.tuple #[.int .i64 ((lengthP j).1 : Nat), .int .i64 ((lengthP j).2 : Nat)]) ∧ w' = w := by
  by_cases h28 : j = 28
  · subst h28
    go_enter Tryd.func14, Tryd.ntmps14
    go_wp2_with fail
    go_ret2
    exact ⟨rfl, rfl⟩
  · have e : lengthP j = (lenB j, extraP j) := by unfold lengthP; rw [if_neg h28]
    have CX := Lib.hid (fun i (hi : i ≤ 28) => extra_any w i hi)
    obtain ⟨s, hs⟩ : ∃ s, s = 257 + j := ⟨_, rfl⟩
    have u : ((s : Int) == 285) = false := by simp; omega
    have hs3 : s ≤ 285 := by omega
    have hs4 : 257 ≤ s := by omega
    have HS := Lib.hid hs
    rw [e, ← hs]
    clear e hs
    go_enter Tryd.func14, Tryd.ntmps14
    go_wp2_with fail
    go_loopw [4, 5] (fun bv kv wl => ∃ i k b : Nat, k = 257 + i ∧ k ≤ s ∧ kv = .int .i64 k ∧ bv = .int .i64 b ∧ b = lenB i ∧ wl = w) (fun _ kv _ => s - (intOf kv).toNat)
    case atStart => exact ⟨0, 257, 3, rfl, hs4, rfl, rfl, rfl, rfl⟩
    case round =>
      obtain ⟨i, k, b, hk, hks, rfl, rfl, hb, rfl⟩ := hrel
      by_cases hlt : k < s
      · have C0 := CX.out i (by have := HS.out; omega)
        rw [← hk] at C0
        have hx6 := extraP_le i (by have := HS.out; omega)
        have hbl := lenB_le i (by have := HS.out; omega)
        rw [← hb] at hbl
        have hstep : lenB (i + 1) = b + 2 ^ extraP i := by rw [lenB, ← hb]
        generalize extraP i = x at *
        have hp6 : 2 ^ x ≤ 2 ^ 6 := Nat.pow_le_pow_right (by omega) hx6
        obtain ⟨y, hy⟩ : ∃ y, y = 2 ^ x := ⟨_, rfl⟩
        rw [← hy] at hstep hp6
        have hxy : IntKind.i64.wrap ((2 : Int) ^ x) = (y : Int) := by rw [pow_cast, ← hy, wrap_i64 _ (by omega) (by omega)]
        have hxy2 : wrap64 ((2 : Int) ^ x) = (y : Int) := by rw [pow_cast, ← hy, IntWalk.wrap64_in _ (by omega)]
        have hxy3 : wrap64 ((1 : Int) * (2 : Int) ^ x) = (y : Int) := by rw [Int.one_mul]; exact hxy2
        have HST := Lib.hid (And.intro hstep hk)
        have C0 := Lib.hid C0
        clear hstep hk hb hy
        go_wp2_with fail
        refine C0.out.mono ?_
        rintro e2 w2 ⟨rfl, hw2⟩
        obtain rfl := hw2.symm
        go_wp2_with fail
        go_roundw
        case rel => exact ⟨i + 1, k + 1, b + y, by have := HST.out.2; omega, hlt, by go_num, by go_num, HST.out.1.symm, trivial⟩
        case measure => simp [intOf]; omega
      · obtain rfl : k = s := by omega
        have hij : i = j := by have := HS.out; omega
        subst hij
        have C0 := CX.out i (by omega)
        rw [← hk] at C0
        obtain ⟨x, hx⟩ : ∃ x, x = extraP i := ⟨_, rfl⟩
        rw [← hx] at C0
        have C0 := Lib.hid C0
        have HB := Lib.hid hb
        have HX := Lib.hid hx
        clear hb hk hx
        go_wp2_with fail
        refine C0.out.mono ?_
        rintro e2 w2 ⟨rfl, hw2⟩
        obtain rfl := hw2.symm
        go_wp2_with fail
        go_ret2
        exact ⟨by rw [← HB.out, ← HX.out]; rfl, rfl⟩
set_option maxHeartbeats 1600000 in
theorem distance_any (w : World) (t : Nat) (ht : t ≤ 29) : Calls Tryd.prog 15 #[.int .i64 (t : Nat)] w fun e w' => e = .returned (.tuple #[.int .i64 ((distP t).1 : Nat), .int .i64 ((distP t).2 : Nat)]) ∧ w' = w := by
  have e : distP t = (distB t, farP t) := rfl
  have CX := Lib.hid (fun i (hi : i ≤ 29) => far_any w i hi)
  rw [e]
  clear e
  go_enter Tryd.func15, Tryd.ntmps15
  go_wp2_with fail
  go_loopw [4, 5] (fun bv kv wl => ∃ k b : Nat, k ≤ t ∧ kv = .int .i64 k ∧ bv = .int .i64 b ∧ b = distB k ∧ wl = w) (fun _ kv _ => t - (intOf kv).toNat)
  case atStart => exact ⟨0, 1, Nat.zero_le _, rfl, rfl, rfl, rfl⟩
  case round =>
    obtain ⟨k, b, hks, rfl, rfl, hb, rfl⟩ := hrel
    by_cases hlt : k < t
    · have C0 := CX.out k (by omega)
      have hx6 := farP_le k (by omega)
      have hbl := distB_le k (by omega)
      rw [← hb] at hbl
      have hstep : distB (k + 1) = b + 2 ^ farP k := by rw [distB, ← hb]
      generalize farP k = x at *
      have hp6 : 2 ^ x ≤ 2 ^ 13 := Nat.pow_le_pow_right (by omega) hx6
      obtain ⟨y, hy⟩ : ∃ y, y = 2 ^ x := ⟨_, rfl⟩
      rw [← hy] at hstep hp6
      have hxy : IntKind.i64.wrap ((2 : Int) ^ x) = (y : Int) := by rw [pow_cast, ← hy, wrap_i64 _ (by omega) (by omega)]
      have hxy2 : wrap64 ((2 : Int) ^ x) = (y : Int) := by rw [pow_cast, ← hy, IntWalk.wrap64_in _ (by omega)]
      have hxy3 : wrap64 ((1 : Int) * (2 : Int) ^ x) = (y : Int) := by rw [Int.one_mul]; exact hxy2
      have HST := Lib.hid hstep
      have C0 := Lib.hid C0
      clear hstep hb hy
      go_wp2_with fail
      refine C0.out.mono ?_
      rintro e2 w2 ⟨rfl, hw2⟩
      obtain rfl := hw2.symm
      go_wp2_with fail
      go_roundw
      case rel => exact ⟨k + 1, b + y, hlt, by go_num, by go_num, HST.out.symm, trivial⟩
      case measure => simp [intOf]; omega
    · obtain rfl : k = t := by omega
      have C0 := CX.out k (by omega)
      obtain ⟨x, hx⟩ : ∃ x, x = farP k := ⟨_, rfl⟩
      rw [← hx] at C0
      have C0 := Lib.hid C0
      have HB := Lib.hid hb
      have HX := Lib.hid hx
      clear hb hx
      go_wp2_with fail
      refine C0.out.mono ?_
      rintro e2 w2 ⟨rfl, hw2⟩
      obtain rfl := hw2.symm
      go_wp2_with fail
      go_ret2
      exact ⟨by rw [← HB.out, ← HX.out]; rfl, rfl⟩
end Go.Proofs.YtpmoknnhgginjaaDoor.Ref

/- The document's copy. -/
namespace Go.Proofs.YtpmoknnhgginjaaDoor.Ref
open Go.RowKit Lzz
set_option linter.unusedVariables false
variable {w0 w w2 : World} {P n c : Nat} {a : Option Addr} {ys : List Nat} {most : Int} {K : Nat → Prop} {s : St}

/-- Bytes that came out before, again. -/
def copyN (away : Nat) : Nat → List Nat → List Nat
  | 0, out => out
  | k + 1, out => copyN away k (out ++ [out.getD (out.length - away) 0])
/-- The last part of a copy: its length and its distance are known. -/
def copyLast (most : Int) (len away : Nat) (s : St) : St :=
  if s.out.length < away then s.fail 22
  else if most < ((s.out.length + len : Nat) : Int) then s.fail 24
  else { s with out := copyN away len s.out }
/-- From the distance's symbol on. -/
def copyFar (ys : List Nat) (most : Int) (len : Nat) (t : Int × St) : St :=
  if t.2.e ≠ 0 then t.2
  else if 29 < t.1 then t.2.fail 25
  else if (get ys (distP t.1.toNat).2 t.2).2.e ≠ 0 then (get ys (distP t.1.toNat).2 t.2).2
  else copyLast most len ((distP t.1.toNat).1 + (get ys (distP t.1.toNat).2 t.2).1) (get ys (distP t.1.toNat).2 t.2).2
/-- A copy, from its length's symbol on. -/
def copyS (ys : List Nat) (most : Int) (cd : Cd) (sy : Nat) (s : St) : St :=
  if 285 < sy then s.fail 25
  else if (get ys (lengthP (sy - 257)).2 s).2.e ≠ 0 then (get ys (lengthP (sy - 257)).2 s).2
  else copyFar ys most ((lengthP (sy - 257)).1 + (get ys (lengthP (sy - 257)).2 s).1) (sym ys cd (get ys (lengthP (sy - 257)).2 s).2)

theorem symFrom_pos (ys : List Nat) (cd : Cd) : ∀ f m v s, 0 ≤ (symFrom ys cd f m v s).1
  | 0, _, _, _ => by simp [symFrom]
  | f + 1, m, v, s => by
    rw [symFrom]
    split
    · simp
    · split
      · assumption
      · split
        · simp
        · exact symFrom_pos ys cd f _ _ _
theorem sym_pos (ys : List Nat) (cd : Cd) (s : St) : 0 ≤ (sym ys cd s).1 := symFrom_pos ys cd 17 1 0 s
theorem getD_some (l : List Nat) (i : Nat) (h : i < l.length) : l[i]? = some (l.getD i 0) := by
  rw [List.getD_eq_getElem?_getD, List.getElem?_eq_getElem h]; rfl
theorem getD_mem (l : List Nat) (i : Nat) (h : i < l.length) : l.getD i 0 ∈ l := List.mem_of_getElem? (getD_some l i h)

theorem step_append_text {w : World} {ops : Array Oper} {o : Oper} {a : Act} {K : Act → World → Prop} {Q : Exit → Act → World → Prop} {E : Prop} (hgd : o.guard = none) (s x : Operand) (ho : o.op = .call { callee := .builtin .append, args := #[s, x], argTypes := #[26, 26] })
    (base n : Nat) (v : Value) (xs : List Nat) (hs : a.eval s = v) (hown : w.ownsRow base 5 1 v n (bys xs))
    (ad : Option Addr) (m c : Nat) (ds : List Nat) (hx : a.eval x = .slice ad m c) (hb : Bytes w ad m ds) (hc : ad = none → m = 0 ∧ c = 0) (hn : n ≤ 33554432) (hm : m ≤ 33554432) (hbase : base ≤ w.heap.size)
    (h : ∀ aa cap w', w'.ownsRow base 5 1 (.slice aa (n + m) cap) (n + m) (bys (xs ++ ds)) → w.grownBy w' v.ownBlock → ((Value.slice aa (n + m) cap).ownBlock = v.ownBlock ∨ (Value.slice aa (n + m) cap).ownBlock = some w.heap.size) → K (a.put o.dst (.slice aa (n + m) cap)) w') :
    if Region.wanted o (yielded ops a.tmps) = true then Oper.wp Tryd.prog o a w K Q else E := by
  have hw : Region.wanted o (yielded ops a.tmps) = true := by simp [Region.wanted, hgd]
  rw [if_pos hw]
  obtain ⟨aa, cap, w', hr, h1, h2, h3⟩ := run_append_text w o.type base n v xs hown ad m c ds hb hc hn hm hbase
  unfold Oper.wp execOp
  simp only [ho, resolve, invoke, builtin, Sem.run_bind, Sem.run_pure, Result.andThen_ok, List.map_toArray, List.map_cons, List.map_nil, hs, hx, hr]
  exact h aa cap w' h1 h2 h3
end Go.Proofs.YtpmoknnhgginjaaDoor.Ref

/- The document's symbols of a block. -/
namespace Go.Proofs.YtpmoknnhgginjaaDoor.Ref
open Go.RowKit Lzz
set_option linter.unusedVariables false
variable {w0 w w2 : World} {P n c : Nat} {a : Option Addr} {ys : List Nat} {most : Int} {K : Nat → Prop} {s : St}

/-- One symbol of a block: does the block go on, and the state. -/
def one (ys : List Nat) (most : Int) (ld dd : Cd) (s : St) : Bool × St :=
  if (sym ys ld s).2.e ≠ 0 then (false, (sym ys ld s).2)
  else if (sym ys ld s).1 = 256 then (false, (sym ys ld s).2)
  else if 256 < (sym ys ld s).1 then (true, copyS ys most dd (sym ys ld s).1.toNat (sym ys ld s).2)
  else if most < (((sym ys ld s).2.out.length + 1 : Nat) : Int) then (false, (sym ys ld s).2.fail 24)
  else (true, { (sym ys ld s).2 with out := (sym ys ld s).2.out ++ [(sym ys ld s).1.toNat] })
/-- A block's symbols. -/
def blockS (ys : List Nat) (most : Int) (ld dd : Cd) : Nat → St → St
  | 0, s => s
  | f + 1, s => if s.e ≠ 0 then s else if (one ys most ld dd s).1 = true then blockS ys most ld dd f (one ys most ld dd s).2 else (one ys most ld dd s).2

theorem fail_e (s : St) (e : Int) (he : e ≠ 0) : (s.fail e).e ≠ 0 := by
  unfold St.fail
  split
  · exact he
  · assumption
theorem fail_at (s : St) (e : Int) : (s.fail e).at_ = s.at_ := by
  unfold St.fail
  split <;> rfl
theorem get_at (ys : List Nat) (k : Nat) (s : St) (h : (get ys k s).2.e = 0) : (get ys k s).2.at_ = s.at_ + k := by
  unfold get at h ⊢
  split at h
  · exact absurd h (fail_e s 20 (by omega))
  · rename_i hn; rw [if_neg hn]
theorem symFrom_at (ys : List Nat) (cd : Cd) : ∀ f m v s, (symFrom ys cd f m v s).2.e = 0 → s.at_ < (symFrom ys cd f m v s).2.at_
  | 0, _, _, s => fun h => absurd h (fail_e s 21 (by omega))
  | f + 1, m, v, s => by
    intro h
    rw [symFrom] at h ⊢
    split at h
    · rename_i he; exact absurd h he
    · rename_i he
      rw [if_neg he]
      have e0 : (get ys 1 s).2.e = 0 := by simpa using he
      have ha := get_at ys 1 s e0
      split at h
      · rename_i hf; rw [if_pos hf]; show s.at_ < (get ys 1 s).2.at_; omega
      · rename_i hf
        rw [if_neg hf]
        split at h
        · exact absurd h (fail_e _ 21 (by omega))
        · rename_i hb
          rw [if_neg hb]
          have := symFrom_at ys cd f (m + 1) (2 * v + (get ys 1 s).1) (get ys 1 s).2 h
          omega
theorem sym_at (ys : List Nat) (cd : Cd) (s : St) (h : (sym ys cd s).2.e = 0) : s.at_ < (sym ys cd s).2.at_ := symFrom_at ys cd 17 1 0 s h
theorem found_lt (zs cs : List Int) (m v : Int) (k : Nat) (hk : 0 < k) : Hu.foundZ (Hu.findS zs cs m v k) < (k : Int) := by
  cases h : Hu.findS zs cs m v k with
  | none => simp only [Hu.foundZ]; omega
  | some x =>
    have := List.mem_of_find?_eq_some h
    rw [List.mem_range] at this
    simp only [Hu.foundZ]; omega
theorem found_le (zs cs : List Int) (m v : Int) (k : Nat) : Hu.foundZ (Hu.findS zs cs m v k) ≤ (k : Int) := by
  cases h : Hu.findS zs cs m v k with
  | none => simp only [Hu.foundZ]; omega
  | some x =>
    have := List.mem_of_find?_eq_some h
    rw [List.mem_range] at this
    simp only [Hu.foundZ]; omega
theorem symFrom_le (ys : List Nat) (cd : Cd) : ∀ f m v s, (symFrom ys cd f m v s).1 ≤ (cd.L.length : Int)
  | 0, _, _, _ => by simp [symFrom]
  | f + 1, m, v, s => by
    rw [symFrom]
    split
    · simp
    · split
      · exact found_le _ _ _ _ _
      · split
        · simp
        · exact symFrom_le ys cd f _ _ _
theorem sym_le (ys : List Nat) (cd : Cd) (s : St) : (sym ys cd s).1 ≤ (cd.L.length : Int) := symFrom_le ys cd 17 1 0 s
theorem copyLast_at (most : Int) (len away : Nat) (s : St) : s.at_ ≤ (copyLast most len away s).at_ := by
  unfold copyLast
  split
  · rw [fail_at]; exact Nat.le_refl _
  · split
    · rw [fail_at]; exact Nat.le_refl _
    · exact Nat.le_refl _
theorem copyFar_at (ys : List Nat) (most : Int) (len : Nat) (t : Int × St) (h : (copyFar ys most len t).e = 0) : t.2.at_ ≤ (copyFar ys most len t).at_ := by
  unfold copyFar at h ⊢
  split at h
  · rename_i he; exact absurd h he
  · rename_i he
    rw [if_neg he]
    split at h
    · exact absurd h (fail_e _ 25 (by omega))
    · rename_i h2
      rw [if_neg h2]
      split at h
      · rename_i h3; exact absurd h h3
      · rename_i h3
        rw [if_neg h3]
        have e0 : (get ys (distP t.1.toNat).2 t.2).2.e = 0 := by simpa using h3
        have := get_at _ _ _ e0
        have := copyLast_at most len ((distP t.1.toNat).1 + (get ys (distP t.1.toNat).2 t.2).1) (get ys (distP t.1.toNat).2 t.2).2
        omega
theorem copyS_at (ys : List Nat) (most : Int) (cd : Cd) (sy : Nat) (s : St) (h : (copyS ys most cd sy s).e = 0) : s.at_ ≤ (copyS ys most cd sy s).at_ := by
  unfold copyS at h ⊢
  split at h
  · exact absurd h (fail_e _ 25 (by omega))
  · rename_i h1
    rw [if_neg h1]
    split at h
    · rename_i h2; exact absurd h h2
    · rename_i h2
      rw [if_neg h2]
      have e0 : (get ys (lengthP (sy - 257)).2 s).2.e = 0 := by simpa using h2
      have k1 := get_at _ _ _ e0
      have k2 := copyFar_at ys most _ _ h
      have e1 : (sym ys cd (get ys (lengthP (sy - 257)).2 s).2).2.e = 0 := by
        by_cases e : (sym ys cd (get ys (lengthP (sy - 257)).2 s).2).2.e = 0
        · exact e
        · unfold copyFar at h; rw [if_pos e] at h; exact absurd h e
      have k3 := sym_at _ _ _ e1
      omega
/-- A symbol that the block goes on behind has cost a bit. -/
theorem one_at (ys : List Nat) (most : Int) (ld dd : Cd) (s : St) (h1 : (one ys most ld dd s).1 = true) (h : (one ys most ld dd s).2.e = 0) : s.at_ < (one ys most ld dd s).2.at_ := by
  unfold one at h h1 ⊢
  split at h
  · rename_i he; rw [if_pos he] at h1; cases h1
  · rename_i he
    have e0 : (sym ys ld s).2.e = 0 := by simpa using he
    have k := sym_at _ _ _ e0
    rw [if_neg he] at h1 ⊢
    split at h
    · rename_i h2; rw [if_pos h2] at h1; cases h1
    · rename_i h2
      rw [if_neg h2] at h1 ⊢
      split at h
      · rename_i h3; rw [if_pos h3] at h1 ⊢
        have := copyS_at ys most dd _ _ h
        show s.at_ < (copyS ys most dd (sym ys ld s).1.toNat (sym ys ld s).2).at_
        omega
      · rename_i h3
        rw [if_neg h3] at h1 ⊢
        split at h
        · rename_i h4; rw [if_pos h4] at h1; cases h1
        · rename_i h4; rw [if_neg h4]; exact k
/-- How much is left to read. -/
def left (P L : Nat) (w : World) : Nat := match w.cell? ⟨P, 4, none⟩, w.cell? ⟨P, 1, none⟩ with
  | some (.int _ e), some (.int _ i) => if e = 0 then 8 * L + 1 - i.toNat else 0
  | _, _ => 0
end Go.Proofs.YtpmoknnhgginjaaDoor.Ref
