/- The contracts of AdlerMore and of the document's Adler. -/
import Derived.Test.YtfidconibclehaaDoorC
namespace Go.Proofs.YtfidconibclehaaDoor
open Go.RowKit
set_option linter.unusedVariables false

/-- One byte more. -/
theorem adls_take {s : Nat × Nat} {ys : List Nat} {i y : Nat} (h : ys[i]? = some y) : Sums.adls s (ys.take (i + 1)) = Sums.adlStep (Sums.adls s (ys.take i)) y := by
  rw [take_more h, Sums.adls_append, Sums.adls_cons, Sums.adls_nil]
theorem raws_take {s : Nat × Nat} {ys : List Nat} {i y : Nat} (h : ys[i]? = some y) : Sums.raws s (ys.take (i + 1)) = Sums.rawStep (Sums.raws s (ys.take i)) y := by
  rw [take_more h]; exact List.foldl_append

theorem docAdler_any (w : World) (a : Option Addr) (n c : Nat) (ys : List Nat) (hn : n ≤ 16777216) (h : Bytes w a n ys) :
    Calls Tryd.prog 13 #[.slice a n c] w fun e w' => e = .returned (.int .i64 (Sums.adler ys : Nat)) ∧ w' = w := by
  have HB := Lib.hid h
  clear h
  go_enter Tryd.func13, Tryd.ntmps13
  go_wp2
  go_loopw [3, 4, 5] (fun x y cnt wr => ∃ i : Nat, i ≤ n ∧ cnt = .int .i64 i ∧ x = .int .i64 ((Sums.adls (1, 0) (ys.take i)).1 : Nat) ∧ y = .int .i64 ((Sums.adls (1, 0) (ys.take i)).2 : Nat) ∧ wr = w) (fun _ _ cnt _ => n - (intOf cnt).toNat)
  case atStart => exact ⟨0, Nat.zero_le _, rfl, rfl, rfl, rfl⟩
  case round =>
    obtain ⟨i, hi, rfl, rfl, rfl, rfl⟩ := hrel
    have hl := Sums.adls_lt (1, 0) (ys.take i) ⟨by decide, by decide⟩
    by_cases hlt : i < n
    · obtain ⟨b, off, y, rfl, hy, hy8, hcell⟩ := HB.out.at hlt
      have HN := Lib.hid (adls_take (s := (1, 0)) hy)
      clear hy
      generalize Sums.adls (1, 0) (ys.take i) = s at *
      generalize hs' : Sums.adls (1, 0) (ys.take (i + 1)) = s' at *
      obtain ⟨s1, s2⟩ := s
      have HS := Lib.hid hs'
      clear hs'
      simp only at hl
      simp only [Sums.adlStep] at HN
      have e1 : ((s1 : Int) + y) % 65521 = (((s1 + y) % 65521 : Nat) : Int) := by omega
      have e2 : ((s2 : Int) + ((s1 + y) % 65521 : Nat)) % 65521 = (((s2 + (s1 + y) % 65521) % 65521 : Nat) : Int) := by omega
      have hm : (s1 + y) % 65521 < 65521 := Nat.mod_lt _ (by omega)
      generalize (s1 + y) % 65521 = m1 at *
      generalize (s2 + m1) % 65521 = m2 at *
      go_wp2_with fail
      go_roundw
      case rel => exact ⟨i + 1, by omega, by go_num, by rw [HS.out, HN.out, ← e1], by rw [HS.out, HN.out, ← e2], trivial⟩
      case measure => simp [intOf]; omega
    · obtain rfl : i = n := by omega
      have e : ys.take i = ys := by rw [List.take_of_length_le (by rw [HB.out.1]; exact Nat.le_refl _)]
      have hc : Sums.adler ys = 65536 * (Sums.adls (1, 0) ys).2 + (Sums.adls (1, 0) ys).1 := rfl
      rw [e] at hl ⊢
      generalize Sums.adls (1, 0) ys = s at *
      obtain ⟨s1, s2⟩ := s
      simp only at hl hc
      have HZ := Lib.hid hc
      clear hc
      go_wp2
      go_ret
      exact ⟨by rw [HZ.out]; simp, rfl⟩

theorem Bytes.drop {w : World} {a : Option Addr} {r c k : Nat} {zs : List Nat} (h : Bytes w a r zs) (hk : k ≤ r) (hc : r ≤ c) : Bytes w (if c = k then a else a.map (fun x => x.add k)) (r - k) (zs.drop k) := by
  obtain ⟨h1, h2, h3⟩ := h
  refine ⟨by simp [h1], fun y hy => h2 y (List.mem_of_mem_drop hy), fun hp => ?_⟩
  obtain ⟨b, off, rfl, hcell⟩ := h3 (by omega)
  rw [if_neg (by omega)]
  refine ⟨b, off + k, ?_, fun j y hj => ?_⟩
  · simp only [Option.map_some]
    congr 1
    unfold Addr.add
    split
    · rename_i h; subst h; rfl
    · rfl
  · rw [List.getElem?_drop] at hj
    rw [Nat.add_assoc]
    exact hcell _ _ hj

def lenOf : Value → Nat
  | .slice _ l _ => l
  | _ => 0
theorem adlerMore_any (w : World) (s1 s2 : Nat) (h1 : s1 < 65521) (h2 : s2 < 65521) (a : Option Addr) (n c : Nat) (ys : List Nat) (hn : n ≤ 16777216) (hcap : n ≤ c) (h : Bytes w a n ys) :
    Calls Tryd.prog 16 #[.int .i64 ((65536 * s2 + s1 : Nat) : Int), .slice a n c] w fun e w' => e = .returned (.int .i64 ((65536 * (Sums.adls (s1, s2) ys).2 + (Sums.adls (s1, s2) ys).1 : Nat) : Int)) ∧ w' = w := by
  have HB := Lib.hid h
  clear h
  generalize hsum : 65536 * s2 + s1 = sum at *
  have q1 : bits .and .i64 (sum : Int) 65535 = (s1 : Int) := by
    have := i64_mask sum 16 (by omega) (by omega)
    rw [show ((2 ^ 16 - 1 : Nat) : Int) = 65535 by rfl, show sum % 2 ^ 16 = s1 by omega] at this
    exact this
  have q2 : bits .and .i64 ((sum : Int) / 65536) 65535 = (s2 : Int) := by
    have := i64_mask (sum / 65536) 16 (by omega) (by omega)
    rw [show ((2 ^ 16 - 1 : Nat) : Int) = 65535 by rfl, show sum / 65536 % 2 ^ 16 = s2 by omega] at this
    exact this
  have HS := Lib.hid hsum
  clear hsum
  go_enter Tryd.func16, Tryd.ntmps16
  go_wp2
  go_loopw [1, 5, 6] (fun b x y wr => ∃ (m r : Nat) (a' : Option Addr) (c' : Nat) (t : Nat × Nat), m + r = n ∧ b = .slice a' r c' ∧ r ≤ c' ∧ Bytes w a' r (ys.drop m) ∧ Sums.adls (s1, s2) (ys.take m) = t ∧ x = .int .i64 (t.1 : Nat) ∧ y = .int .i64 (t.2 : Nat) ∧ wr = w) (fun b _ _ _ => lenOf b)
  case atStart => exact ⟨0, n, a, c, (s1, s2), by omega, rfl, hcap, HB.out, rfl, rfl, rfl, rfl⟩
  case round =>
    obtain ⟨m, r, a, c, t, hm, rfl, hrc, hb, ht, rfl, rfl, rfl⟩ := hrel
    have hl := Sums.adls_lt (s1, s2) (ys.take m) ⟨h1, h2⟩
    rw [ht] at hl
    obtain ⟨t1, t2⟩ := t
    simp only at hl
    clear HB
    have HB := Lib.hid hb
    have HT := Lib.hid ht
    clear hb ht
    by_cases h0 : r = 0
    · subst h0
      obtain rfl : m = n := by omega
      have e : ys.take m = ys := by
        have : (ys.drop m).length = 0 := HB.out.1
        rw [List.length_drop] at this
        exact List.take_of_length_le (by omega)
      have ht := HT.out
      rw [e] at ht
      have HT := Lib.hid ht
      have hor := i64_or_nat (t2 * 65536) t1 (by omega) (by omega)
      rw [nat_join 16 (t2 * 65536) t1 (Nat.mul_mod_left _ _) (by omega)] at hor
      have hor' : bits .or .i64 ((t2 : Int) * 65536) (t1 : Int) = ((t2 * 65536 + t1 : Nat) : Int) := hor
      generalize hz : t2 * 65536 + t1 = z at *
      have HZ := Lib.hid hz
      clear hz hor e ht
      go_wp2_with fail
      go_ret
      exact ⟨by rw [HT.out, Nat.mul_comm, HZ.out]; rfl, rfl⟩
    · obtain ⟨k, hk, hk0, hkr, hk6⟩ : ∃ k : Nat, (if (65536 : Int) < (r : Int) then 65536 else (r : Int)) = (k : Int) ∧ 0 < k ∧ k ≤ r ∧ k ≤ 65536 := by
        by_cases hb : r ≤ 65536
        · exact ⟨r, by rw [if_neg (by omega)], by omega, by omega, hb⟩
        · exact ⟨65536, by rw [if_pos (by omega)]; rfl, by omega, by omega, by omega⟩
      clear h0
      have hp : 0 < r := by omega
      go_wp2_with fail
      go_loopw [5, 6, 25] (fun x y cnt wl => ∃ j : Nat, j ≤ k ∧ cnt = .int .i64 j ∧ x = .int .i64 ((Sums.raws (t1, t2) ((ys.drop m).take j)).1 : Nat) ∧ y = .int .i64 ((Sums.raws (t1, t2) ((ys.drop m).take j)).2 : Nat) ∧ wl = wr) (fun _ _ cnt _ => k - (intOf cnt).toNat)
      case atStart => exact ⟨0, Nat.zero_le _, rfl, rfl, rfl, rfl⟩
      case round =>
        obtain ⟨j, hj, rfl, rfl, rfl, rfl⟩ := hrel
        have hb := Sums.raws_lt (t1, t2) ((ys.drop m).take j) (take_lt HB.out.2.1 j)
        have hlen : ((ys.drop m).take j).length ≤ j := by simp; omega
        simp only at hb
        have hb1 : (Sums.raws (t1, t2) ((ys.drop m).take j)).1 ≤ 65520 + 255 * 65536 := by omega
        have hb2 : (Sums.raws (t1, t2) ((ys.drop m).take j)).2 ≤ 65520 + 65536 * (65520 + 255 * 65536) := by
          have := Nat.mul_le_mul (show ((ys.drop m).take j).length ≤ 65536 by omega) (show t1 + 255 * ((ys.drop m).take j).length ≤ 65520 + 255 * 65536 by omega)
          omega
        clear hb hlen
        by_cases hlt : j < k
        · obtain ⟨b, off, y, rfl, hy, hy8, hcell⟩ := HB.out.at (show j < r by omega)
          have HN := Lib.hid (raws_take (s := (t1, t2)) hy)
          generalize Sums.raws (t1, t2) ((ys.drop m).take j) = s at *
          generalize hs' : Sums.raws (t1, t2) ((ys.drop m).take (j + 1)) = s' at *
          have HS' := Lib.hid hs'
          obtain ⟨x1, x2⟩ := s
          simp only at hb1 hb2
          simp only [Sums.rawStep] at HN
          clear hs' hy
          go_wp2_with fail
          go_roundw
          case rel => exact ⟨j + 1, by omega, by go_num, by rw [HS'.out, HN.out]; simp, by rw [HS'.out, HN.out]; simp, trivial⟩
          case measure => simp [intOf]; omega
        · obtain rfl : j = k := by omega
          have hq := Sums.raws_adls (t1, t2) (t1, t2) ((ys.drop m).take j) rfl rfl
          have hq2 := Sums.adls_lt (t1, t2) ((ys.drop m).take j) hl
          have hnext : Sums.adls (s1, s2) (ys.take (m + j)) = Sums.adls (t1, t2) ((ys.drop m).take j) := by rw [List.take_add, Sums.adls_append, HT.out]
          generalize Sums.adls (t1, t2) ((ys.drop m).take j) = q at *
          generalize Sums.raws (t1, t2) ((ys.drop m).take j) = s at *
          obtain ⟨x1, x2⟩ := s
          obtain ⟨q1', q2'⟩ := q
          simp only at hb1 hb2 hq hq2
          have e1 : (x1 : Int) % 65521 = (q1' : Int) := by omega
          have e2 : (x2 : Int) % 65521 = (q2' : Int) := by omega
          have HNX := Lib.hid hnext
          have hdd : Bytes wr (if c = j then a else a.map (·.add j)) (r - j) (ys.drop (m + j)) := by rw [← List.drop_drop]; exact HB.out.drop hkr hrc
          have HDD := Lib.hid hdd
          clear hnext hq hq2 hdd hb1 hb2
          go_wp2_with fail
          go_roundw
          case rel => exact ⟨m + j, r - j, _, c - j, (q1', q2'), by omega, rfl, by omega, HDD.out, HNX.out, by rw [← e1], by rw [← e2], trivial⟩
          case measure => show r - j < r; omega
end Go.Proofs.YtfidconibclehaaDoor
