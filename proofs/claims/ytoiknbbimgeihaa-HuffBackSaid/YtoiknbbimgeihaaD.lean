/- The contracts of the document's Find and Begins. -/
import Derived.Test.YtoiknbbimgeihaaC
namespace Go.Proofs.Ytoiknbbimgeihaa
open Go.RowKit
set_option linter.unusedVariables false

/-- A symbol whose code is so many bits that are a number. -/
def isCode (zs cs : List Int) (n v : Int) (s : Nat) : Bool := zs.getD s 0 == n && cs.getD s 0 == v
def findS (zs cs : List Int) (n v : Int) (k : Nat) : Option Nat := (List.range k).find? (isCode zs cs n v)
def foundZ : Option Nat → Int
  | some s => s
  | none => -1
theorem findS_more (zs cs : List Int) (n v : Int) (k : Nat) (h : findS zs cs n v k = none) : findS zs cs n v (k + 1) = if isCode zs cs n v k = true then some k else none := by
  unfold findS at h ⊢
  rw [List.range_succ, List.find?_append, h, Option.none_or]
  cases he : isCode zs cs n v k <;> simp [he]
theorem findS_stay (zs cs : List Int) (n v : Int) (k m s : Nat) (h : findS zs cs n v k = some s) (hm : k ≤ m) : findS zs cs n v m = some s := by
  unfold findS at h ⊢
  obtain ⟨d, rfl⟩ : ∃ d, m = k + d := ⟨m - k, by omega⟩
  rw [List.range_add, List.find?_append, h]
  rfl

set_option maxHeartbeats 800000 in
theorem docFind_any (w : World) (a : Option Addr) (len c : Nat) (zs : List Int) (b : Option Addr) (m d : Nat) (cs : List Int) (n v : Int) (hz : Ints w a len zs) (hc : Ints w b m cs) (hlm : len ≤ m) (hn : len ≤ 16777216) :
    Calls Try.prog 20 #[.slice a len c, .slice b m d, .int .i64 n, .int .i64 v] w fun e w' => e = .returned (.int .i64 (foundZ (findS zs cs n v len))) ∧ w' = w := by
  have HZ := Lib.hid hz
  have HC := Lib.hid hc
  clear hz hc
  go_enter Try.func20, Try.ntmps20
  go_wp2
  go_loopw [9] (fun cnt wr => ∃ i : Nat, i ≤ len ∧ cnt = .int .i64 i ∧ findS zs cs n v i = none ∧ wr = w) (fun cnt _ => len - (intOf cnt).toNat)
  case atStart => exact ⟨0, Nat.zero_le _, rfl, rfl, rfl⟩
  case round =>
    obtain ⟨i, hi, rfl, hnone, rfl⟩ := hrel
    by_cases hlt : i < len
    · obtain ⟨b0, o0, z, rfl, hz, hzb, hcz⟩ := HZ.out.at hlt
      obtain ⟨b1, o1, y, rfl, hy, hyb, hcy⟩ := HC.out.at (show i < m by omega)
      have hmore := findS_more zs cs n v i hnone
      have he : isCode zs cs n v i = (z == n && y == v) := by
        unfold isCode
        rw [List.getD_eq_getElem?_getD, List.getD_eq_getElem?_getD, hz, hy]
        rfl
      rw [he] at hmore
      have hstay := fun s h => findS_stay zs cs n v (i + 1) len s h (by omega)
      have HM := Lib.hid hmore
      have HS := Lib.hid hstay
      clear hz hy hnone hmore he hstay
      by_cases e1 : z = n
      · have t1 : (z == n) = true := by simpa using e1
        by_cases e2 : y = v
        · have t2 : (y == v) = true := by simpa using e2
          have hf := HS.out i (by rw [HM.out, t1, t2]; rfl)
          have HF := Lib.hid hf
          clear hf e1 e2
          go_wp2
          go_ret
          exact ⟨by rw [HF.out]; rfl, rfl⟩
        · have t2 : (y == v) = false := by simpa using e2
          have X := Lib.hid (show findS zs cs n v (i + 1) = none by rw [HM.out, t1, t2]; rfl)
          clear e1 e2
          go_wp2
          go_roundw
          case rel => exact ⟨i + 1, by omega, by go_num, X.out, trivial⟩
          case measure => simp [intOf]; omega
      · have t1 : (z == n) = false := by simpa using e1
        have X := Lib.hid (show findS zs cs n v (i + 1) = none by rw [HM.out, t1]; rfl)
        clear e1
        go_wp2
        go_roundw
        case rel => exact ⟨i + 1, by omega, by go_num, X.out, trivial⟩
        case measure => simp [intOf]; omega
    · obtain rfl : i = len := by omega
      have HN := Lib.hid hnone
      clear hnone
      go_wp2
      go_ret
      exact ⟨by rw [HN.out]; rfl, rfl⟩

/-- A symbol whose code begins with so many bits that are a number, and has more. -/
def longer (zs cs : List Int) (n v : Int) (s : Nat) : Bool := decide (n < zs.getD s 0) && cs.getD s 0 / 2 ^ (zs.getD s 0 - n).toNat == v
def beginsS (zs cs : List Int) (n v : Int) (k : Nat) : Bool := (List.range k).any (longer zs cs n v)
theorem beginsS_more (zs cs : List Int) (n v : Int) (k : Nat) (h : beginsS zs cs n v k = false) : beginsS zs cs n v (k + 1) = longer zs cs n v k := by
  unfold beginsS at h ⊢
  rw [List.range_succ, List.any_append, h, Bool.false_or]
  simp
theorem beginsS_stay (zs cs : List Int) (n v : Int) (k m : Nat) (h : beginsS zs cs n v k = true) (hm : k ≤ m) : beginsS zs cs n v m = true := by
  unfold beginsS at h ⊢
  obtain ⟨d, rfl⟩ : ∃ d, m = k + d := ⟨m - k, by omega⟩
  rw [List.range_add, List.any_append, h, Bool.true_or]

set_option maxHeartbeats 800000 in
theorem docBegins_any (w : World) (a : Option Addr) (len c : Nat) (zs : List Int) (b : Option Addr) (m d : Nat) (cs : List Int) (n : Nat) (v : Int) (hz : Ints w a len zs) (hz16 : ∀ z ∈ zs, z ≤ 16) (hc : Ints w b m cs) (hlm : len ≤ m) (hn : len ≤ 16777216) :
    Calls Try.prog 21 #[.slice a len c, .slice b m d, .int .i64 n, .int .i64 v] w fun e w' => e = .returned (.bool (beginsS zs cs n v len)) ∧ ∃ q, w' = w.drewN q := by
  have HZ := Lib.hid hz
  have HC := Lib.hid hc
  have H16 := Lib.hid hz16
  clear hz hc hz16
  go_enter Try.func21, Try.ntmps21
  go_wp2
  go_loopw [9] (fun cnt wr => ∃ i q : Nat, i ≤ len ∧ cnt = .int .i64 i ∧ beginsS zs cs n v i = false ∧ wr = w.drewN q) (fun cnt _ => len - (intOf cnt).toNat)
  case atStart => exact ⟨0, 0, Nat.zero_le _, rfl, rfl, rfl⟩
  case round =>
    obtain ⟨i, q, hi, rfl, hnone, rfl⟩ := hrel
    by_cases hlt : i < len
    · obtain ⟨b0, o0, z, rfl, hz, hzb, hcz⟩ := HZ.out.at hlt
      obtain ⟨b1, o1, y, rfl, hy, hyb, hcy⟩ := HC.out.at (show i < m by omega)
      have hz16 := H16.out z (List.mem_of_getElem? hz)
      have hmore := beginsS_more zs cs n v i hnone
      have he : longer zs cs n v i = (decide ((n : Int) < z) && y / 2 ^ (z - n).toNat == v) := by
        unfold longer
        rw [List.getD_eq_getElem?_getD, List.getD_eq_getElem?_getD, hz, hy]
        rfl
      rw [he] at hmore
      have hstay := fun h => beginsS_stay zs cs n v (i + 1) len h (by omega)
      have HM := Lib.hid hmore
      have HS := Lib.hid hstay
      clear hz hy hnone hmore he hstay
      by_cases e1 : (n : Int) < z
      · obtain ⟨t, ht⟩ : ∃ t : Nat, z - n = (t : Int) := ⟨(z - n).toNat, by omega⟩
        have t1 : decide ((n : Int) < z) = true := by simpa using e1
        have htl : t ≤ 16 := by omega
        have hm := HM.out
        rw [t1, ht, Int.toNat_natCast, Bool.true_and] at hm
        obtain ⟨u, hu⟩ : ∃ u : Int, y / 2 ^ t = u := ⟨_, rfl⟩
        rw [hu] at hm
        have hwt : IntKind.i64.wrap (t : Int) = (t : Int) := by
          simp [IntKind.wrap, IntKind.bits, IntKind.signed]; omega
        by_cases e2 : u = v
        · have t2 : (u == v) = true := by simpa using e2
          have HF := Lib.hid (HS.out (by rw [hm, t2]))
          clear e1 e2 hm
          go_wp2
          go_quiet (fail)
          go_wp2
          go_ret
          exact ⟨by rw [HF.out]; rfl, q + nq, by simp⟩
        · have t2 : (u == v) = false := by simpa using e2
          have X := Lib.hid (show beginsS zs cs n v (i + 1) = false by rw [hm, t2])
          clear e1 e2 hm
          go_wp2
          go_quiet (fail)
          go_wp2
          go_roundw
          case rel => exact ⟨i + 1, q + nq, by omega, by go_num, X.out, by simp⟩
          case measure => simp [intOf]; omega
      · have t1 : decide ((n : Int) < z) = false := by simpa using e1
        have X := Lib.hid (show beginsS zs cs n v (i + 1) = false by rw [HM.out, t1]; rfl)
        clear e1
        go_wp2
        go_quiet (fail)
        go_wp2
        go_roundw
        case rel => exact ⟨i + 1, q + nq, by omega, by go_num, X.out, by simp⟩
        case measure => simp [intOf]; omega
    · obtain rfl : i = len := by omega
      have HN := Lib.hid hnone
      clear hnone
      go_wp2
      go_ret
      exact ⟨by rw [HN.out]; rfl, q, rfl⟩
end Go.Proofs.Ytoiknbbimgeihaa
