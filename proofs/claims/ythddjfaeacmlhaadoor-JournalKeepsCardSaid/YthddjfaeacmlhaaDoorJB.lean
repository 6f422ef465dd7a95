/- What came in; the contracts of putNumber, number and Record. -/
import Derived.Test.YthddjfaeacmlhaaDoorSF
import Derived.Test.YthddjfaeacmlhaaDoorJA
import Derived.StillTailTactics
namespace Go.Proofs.YthddjfaeacmlhaaDoor
open Go.RowKit Jr
set_option linter.unusedVariables false

/-- Bytes that came in. -/
def Arg (w : World) (a : Option Addr) (n c : Nat) (ys : List Nat) : Prop := Bytes w a n ys ∧ n ≤ c ∧ (a = none → n = 0 ∧ c = 0)
theorem Arg.below {w w' : World} {a : Option Addr} {n c : Nat} {ys : List Nat} (h : Arg w a n c ys) (hb : Below w.heap.size w w') : Arg w' a n c ys := ⟨h.1.below hb, h.2⟩
theorem Arg.later {w w' : World} {a : Option Addr} {n c : Nat} {ys : List Nat} (h : Arg w a n c ys) (hk : ∀ k, k < w.heap.size → w'.heap[k]? = w.heap[k]?) : Arg w' a n c ys := ⟨h.1.later hk, h.2⟩
theorem Arg.byte {w : World} {a : Option Addr} {n c : Nat} {ys : List Nat} (h : Arg w a n c ys) : Byte ys := h.1.2.1
theorem Arg.len {w : World} {a : Option Addr} {n c : Nat} {ys : List Nat} (h : Arg w a n c ys) : ys.length = n := h.1.1
theorem nil_arg (w : World) : Arg w none 0 0 [] := ⟨⟨rfl, fun _ h => absurd h List.not_mem_nil, fun h => absurd h (Nat.lt_irrefl 0)⟩, Nat.le_refl _, fun _ => ⟨rfl, rfl⟩⟩
theorem Bytes.drop {w : World} {a : Option Addr} {r c k : Nat} {zs : List Nat} (h : Bytes w a r zs) (hk : k ≤ r) (hc : r ≤ c) : Bytes w (if c = k then a else a.map (fun x => x.add k)) (r - k) (zs.drop k) := by
  obtain ⟨h1, h2, h3⟩ := h
  refine ⟨by simp [h1], fun y hy => h2 y (List.mem_of_mem_drop hy), fun hp => ?_⟩
  obtain ⟨b, off, rfl, hcell⟩ := h3 (by omega)
  rw [if_neg (by omega)]
  refine ⟨b, off + k, ?_, fun j y hj => ?_⟩
  · simp only [Option.map_some]
    congr 1
    unfold Addr.add
    split
    · rename_i h; subst h; rfl
    · rfl
  · rw [List.getElem?_drop] at hj
    rw [Nat.add_assoc]
    exact hcell _ _ hj
theorem Arg.take {w : World} {a : Option Addr} {n c k : Nat} {ys : List Nat} (h : Arg w a n c ys) (hk : k ≤ n) : Arg w a k c (ys.take k) := by
  obtain ⟨⟨h1, h2, h3⟩, h4, h5⟩ := h
  refine ⟨⟨by rw [List.length_take]; omega, take_lt h2 k, fun hp => ?_⟩, by omega, fun e => ⟨by have := (h5 e).1; omega, (h5 e).2⟩⟩
  obtain ⟨b, off, e, hc⟩ := h3 (by omega)
  exact ⟨b, off, e, fun j y hj => hc j y (by
    rw [List.getElem?_take] at hj
    split at hj
    · exact hj
    · cases hj)⟩
theorem Arg.drop {w : World} {a : Option Addr} {n c k : Nat} {ys : List Nat} (h : Arg w a n c ys) (hk : k ≤ n) : Arg w (if c = k then a else a.map (fun x => x.add k)) (n - k) (c - k) (ys.drop k) := by
  refine ⟨h.1.drop hk h.2.1, by have := h.2.1; omega, fun e => ?_⟩
  split at e
  · have := h.2.2 e; omega
  · cases a with
    | none => have := h.2.2 rfl; omega
    | some a => cases e

/-- What putNumber leaves. -/
def Put (w : World) (base n : Nat) (zs : List Nat) (e : Ending) (w' : World) : Prop :=
  ∃ aa c, e = .returned (.slice aa n c) ∧ w'.ownsRow base 5 1 (.slice aa n c) n (bys zs) ∧ Below base w w'
theorem bys4 (v : Nat) (hv : v < 4294967296) : (#[.int .u8 ((v : Int) / 16777216), .int .u8 ((v : Int) / 65536 % 256), .int .u8 ((v : Int) / 256 % 256), .int .u8 ((v : Int) % 256)] : Array Value).toList = bys (big4 v) := by
  have e : (v : Int) / 16777216 = ((v / 16777216 % 256 : Nat) : Int) := by omega
  simp [bys, big4]
  omega
set_option maxHeartbeats 800000 in
theorem put_any (w : World) (base : Nat) (aa : Option Addr) (n c : Nat) (xs : List Nat) (hown : w.ownsRow base 5 1 (.slice aa n c) n (bys xs)) (hB : base ≤ w.heap.size) (hn : n ≤ 33554432) (v : Nat) (hv : v < 4294967296) :
    Calls Tryd.prog 28 #[.slice aa n c, .int .i64 v] w (Put w base (n + 4) (xs ++ big4 v)) := by
  have HO := Lib.hid hown
  clear hown
  go_enter Tryd.func28, Tryd.ntmps28
  go_wp2_with (at_builtin; go_must (refine wpList_append_text rfl (.tmp 5) (.tmp 17) rfl base n (.slice aa n c) xs rfl ?e1 (some ⟨w.heap.size, 0, none⟩) 4 4 (big4 v) rfl ?e2 (by intro e; cases e) (by omega) (by omega) ?e3 ?e4))
  case e1 => exact own_kept HO.out (fun k e => Below.heap_alloc _ _ _ (HO.out.lt k e).2)
  case e2 => exact lit_bytes w _ (big4 v) (0, 0) (bys4 v hv) (big4_byte v)
  case e3 => simp; omega
  case e4 =>
    intro aa2 cap w1 hown hg hat
    have X := Lib.hid (show Put w base (n + 4) (xs ++ big4 v) (.returned (.slice aa2 (n + 4) cap)) w1 from ⟨aa2, cap, rfl, hown, grown_below hB ((Below.refl _ _).alloc hB _) hg (fun k e => (HO.out.lt k e).1)⟩)
    clear hown hg hat
    go_wp2_with fail
    go_ret
    exact X.out

theorem numb_take {ys : List Nat} {i y : Nat} (h : ys[i]? = some y) : numb (ys.take (i + 1)) = 256 * numb (ys.take i) + y := by
  rw [take_more h, numb_snoc]
theorem numb_lts {l : List Nat} (hb : Byte l) (i : Nat) : numb (l.take i) < 256 ^ i := by
  induction i with
  | zero => simp [numb]
  | succ i ih =>
    rw [Nat.pow_succ]
    cases h : l[i]? with
    | none =>
      have e : l.take (i + 1) = l.take i := by
        rw [List.getElem?_eq_none_iff] at h
        rw [List.take_of_length_le h, List.take_of_length_le (by omega)]
      rw [e]; omega
    | some y =>
      rw [numb_take h]
      have := hb y (List.mem_of_getElem? h)
      omega
theorem i64_byte (n x : Nat) (hn : n < 16777216) (hx : x < 256) : bits .or .i64 ((n : Int) * 256) (x : Int) = ((256 * n + x : Nat) : Int) := by
  have e : (n : Int) * 256 = ((256 * n : Nat) : Int) := by omega
  rw [e, i64_or_nat _ _ (by omega) (by omega)]
  have k := Nat.two_pow_add_eq_or_of_lt (i := 8) (show x < 2 ^ 8 by omega) n
  rw [show (2 : Nat) ^ 8 = 256 by rfl] at k
  rw [k]
set_option maxHeartbeats 800000 in
theorem number_any (w : World) (a : Option Addr) (n c : Nat) (ys : List Nat) (h : Arg w a n c ys) (h4 : 4 ≤ n) :
    Calls Tryd.prog 38 #[.slice a n c] w fun e w' => e = .returned (.int .i64 (numb (ys.take 4) : Nat)) ∧ w' = w := by
  have HA := Lib.hid h
  have hc4 : 4 ≤ c := by have := h.2.1; omega
  clear h
  go_enter Tryd.func38, Tryd.ntmps38
  go_wp2
  go_loopw [3, 9] (fun r cnt wr => ∃ i : Nat, i ≤ 4 ∧ cnt = .int .i64 i ∧ r = .int .i64 (numb (ys.take i) : Nat) ∧ wr = w) (fun _ cnt _ => 4 - (intOf cnt).toNat)
  case atStart => exact ⟨0, Nat.zero_le _, rfl, rfl, rfl⟩
  case round =>
    obtain ⟨i, hi, rfl, rfl, rfl⟩ := hrel
    by_cases hlt : i < 4
    · obtain ⟨b, off, y, rfl, hy, hy8, hcell⟩ := HA.out.1.at (show i < n by omega)
      have hl := numb_lts HA.out.byte i
      have hl2 : numb (ys.take i) < 16777216 := Nat.lt_of_lt_of_le hl (by
        have : (256 : Nat) ^ i ≤ 256 ^ 3 := Nat.pow_le_pow_right (by omega) (by omega)
        omega)
      have HN := Lib.hid (numb_take hy)
      have ho := i64_byte (numb (ys.take i)) y hl2 hy8
      rw [← HN.out] at ho
      generalize numb (ys.take i) = v at *
      generalize hv' : numb (ys.take (i + 1)) = v' at *
      have HV := Lib.hid hv'
      clear hl hy hv'
      go_wp2_with fail
      go_roundw
      case rel => exact ⟨i + 1, by omega, by go_num, by rw [HV.out], trivial⟩
      case measure => simp [intOf]; omega
    · obtain rfl : i = 4 := by omega
      generalize hv : numb (ys.take 4) = v at *
      have HV := Lib.hid hv
      clear hv
      go_wp2
      go_ret
      exact ⟨by rw [HV.out]; rfl, rfl⟩

/-- What Record leaves. -/
def Made (w : World) (p : List Nat) (e : Ending) (w' : World) : Prop :=
  ∃ aa c, e = .returned (.tuple #[.slice aa (p.length + 8) c, .int .i64 0]) ∧ w'.ownsRow w.heap.size 5 1 (.slice aa (p.length + 8) c) (p.length + 8) (bys (recd p)) ∧ Below w.heap.size w w'
theorem record_big (w : World) (a : Option Addr) (n c : Nat) (h : 8388608 < n) :
    Calls Tryd.prog 11 #[.slice a n c] w fun e w' => e = .returned (.tuple #[.slice none 0 0, .int .i64 31]) ∧ w' = w := by
  go_enter Tryd.func11, Tryd.ntmps11
  go_wp2
  go_ret2
  exact ⟨rfl, rfl⟩

/-- Crc of one text, handed over in a list that the call lays. -/
theorem crc_lone (w : World) (a : Option Addr) (n c : Nat) (ys : List Nat) (hn : n ≤ 16777216) (h : Arg w a n c ys) (hF : Fours w) :
    Calls Tryd.prog 29 #[.slice (some ⟨w.heap.size, 0, none⟩) 1 1] (w.alloc (.cells #[.slice a n c] 22)) fun e w' => e = .returned (.int .i64 (Sums.crc ys : Nat)) ∧ w' = w.alloc (.cells #[.slice a n c] 22) := by
  have hb : Below w.heap.size w (w.alloc (.cells #[.slice a n c] 22)) := (Below.refl _ _).alloc (Nat.le_refl _) _
  have C := crc_any _ _ 1 1 [ys] (by omega) (by intro zs hz; simp only [List.mem_singleton] at hz; subst hz; have := h.1.1; omega) (one_text w a n c ys h.1 h.2) (hF.below hb)
  rw [show [ys].flatten = ys by simp] at C
  exact C

theorem wpList_make_cap {w : World} {ops : Array Oper} {rest : List Oper} {o : Oper} {a : Act} {Q : Exit → Act → World → Prop} (hg : o.guard = none) (l c : Operand) (hop : o.op = Op.makeSlice 22 l c)
    (n m : Nat) (hl : a.eval l = .int .i64 n) (hc : a.eval c = .int .i64 m) (hnm : n ≤ m) (hm : m ≤ 33554432)
    (hK : ∀ w', w'.ownsRow w.heap.size 5 1 (.slice (some ⟨w.heap.size, 0, none⟩) n m) n ((madeCells #[.int .u8 0] m).toList.take n) → w'.heap[w.heap.size]? = some (.cells (madeCells #[.int .u8 0] m) 5 (0, 0)) → Below w.heap.size w w' → wpList Tryd.prog ops Q rest (a.put o.dst (.slice (some ⟨w.heap.size, 0, none⟩) n m)) w') :
    wpList Tryd.prog ops Q (o :: rest) a w := by
  obtain ⟨i0, hi, hz0, hz1, hz2⟩ := info_parts info5
  have hr := run_make (P := Tryd.prog) w 22 5 i0 (.int .u8 0) Tryd.underlying22 hi hz0 .i64 .i64 n m (by omega) (by omega) (by rw [hz2]; omega) (by omega)
  rw [hz1, Nat.mul_one, Int.toNat_natCast, Int.toNat_natCast] at hr
  refine wpList_plain hg fun K hK' => ?_
  unfold Oper.wp
  simp [execOp, hop, hl, hc, hr, Result.andThen]
  refine hK' _ _ (hK _ ⟨?_, Or.inr ⟨w.heap.size, m, madeCells #[.int .u8 0] m, rfl, Nat.le_refl _, ?_, hnm, by unfold maxLen; omega, by simp [size_madeCells], by simp⟩⟩ ?_ ((Below.refl _ _).alloc (Nat.le_refl _) _))
  · simp [size_madeCells]; omega
  · exact heap_alloc_new _ _
  · exact heap_alloc_new _ _

theorem arg_of_own {w : World} {B n c : Nat} {aa : Option Addr} {ds : List Nat} (h : w.ownsRow B 5 1 (.slice aa n c) n (bys ds)) (hb : Byte ds) : Arg w aa n c ds := by
  have k := bytes_of_own h hb
  exact ⟨k.1, k.2⟩
theorem below_tail {B : Nat} {w w1 w2 : World} (h : Below B w w1) (h2 : Below B w1 w2) : Below B w w2 := h.trans h2

set_option maxHeartbeats 1600000 in
theorem record_any (w : World) (a : Option Addr) (n c : Nat) (p : List Nat) (h : Arg w a n c p) (hn : n ≤ 8388608) (hF : Fours w) :
    Calls Tryd.prog 11 #[.slice a n c] w (Made w p) := by
  have HA := Lib.hid h
  have HF := Lib.hid hF
  have t0 : decide ((8388608 : Int) < n) = false := by simp; omega
  have hl := h.len
  have HL := Lib.hid h.len
  clear h hF hl
  go_enter Tryd.func11, Tryd.ntmps11
  go_wp2_with (at_make; go_must (refine wpList_make_cap rfl (.const (.int .i64 0)) (.tmp 10) rfl 0 (8 + n) rfl ?c0 (by omega) (by omega) ?c2))
  case c0 => rfl
  case c2 =>
    intro w1 hown1 _ hb1
    have hown1 : w1.ownsRow w.heap.size 5 1 (.slice (some ⟨w.heap.size, 0, none⟩) 0 (8 + n)) 0 (bys []) := by simpa [bys] using hown1
    have C1 := Lib.hid (put_any w1 w.heap.size _ 0 (8 + n) [] hown1 hb1.size (by omega) n (by omega))
    have HB1 := Lib.hid hb1
    clear hown1 hb1
    go_wp2_with fail
    refine C1.out.mono ?_
    rintro e w2 ⟨a2, c2, rfl, hown2, hb2⟩
    have hb2 := below_tail HB1.out hb2
    rw [Nat.zero_add, List.nil_append] at hown2
    have HO2 := Lib.hid hown2
    have HB2 := Lib.hid hb2
    have HA2 := Lib.hid (HA.out.below hb2)
    have hs2 := hb2.size
    clear hown2 hb2
    go_wp2_with (at_builtin; go_must (refine wpList_append_text rfl (.tmp 16) (.tmp 17) rfl w.heap.size 4 (.slice a2 (0 + 4) c2) (big4 n) rfl ?e1 a n c p rfl ?e2 HA.out.2.2 (by omega) (by omega) hs2 ?e4))
    case e1 => exact HO2.out
    case e2 => exact HA2.out.1
    case e4 =>
      intro a3 c3 w3 hown3 hg3 _
      have hb3 := grown_below (Nat.le_refl _) HB2.out hg3 (fun k e => (HO2.out.lt k e).1)
      have ef : big4 n ++ p = front p := by unfold front; rw [HL.out]
      rw [ef] at hown3
      have hfb : Byte (front p) := front_byte HA.out.byte
      have harg := arg_of_own hown3 hfb
      have C3 := Lib.hid (crc_lone w3 a3 (4 + n) c3 (front p) (by omega) harg (HF.out.below hb3))
      have hlt := Sums.crc_lt (front p) hfb
      have hb4 := hb3.alloc (Nat.le_trans (Nat.le_refl _) hb3.size) (.cells #[.slice a3 (4 + n) c3] 22)
      have hown4 := own_kept (w' := w3.alloc (.cells #[.slice a3 (4 + n) c3] 22)) hown3 (fun k e => Below.heap_alloc _ _ _ (hown3.lt k e).2)
      have C4 := Lib.hid (put_any _ w.heap.size a3 (4 + n) c3 (front p) hown4 hb4.size (by omega) (Sums.crc (front p)) (by omega))
      have HR := Lib.hid (show front p ++ big4 (Sums.crc (front p)) = recd p from rfl)
      have HB4 := Lib.hid hb4
      clear hown3 hg3 hb3 ef hfb harg hb4 hown4
      generalize Sums.crc (front p) = s at *
      go_wp2_with fail
      refine C3.out.mono ?_
      rintro e w4 ⟨rfl, rfl⟩
      go_wp2_with fail
      refine C4.out.mono ?_
      rintro e w5 ⟨a5, c5, rfl, hown5, hb5⟩
      have X := Lib.hid (show Made w p (.returned (.tuple #[.slice a5 (4 + n + 4) c5, .int .i64 0])) w5 from by
        rw [HR.out] at hown5
        have e : 4 + n + 4 = p.length + 8 := by have := HL.out; omega
        rw [e] at hown5 ⊢
        exact ⟨a5, c5, rfl, hown5, below_tail HB4.out hb5⟩)
      clear hown5 hb5
      go_wp2_with fail
      go_ret2
      exact X.out
end Go.Proofs.YthddjfaeacmlhaaDoor
