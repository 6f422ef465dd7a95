/- Texts in memory; the contracts of Crc and Adler over parts; the document's Join. -/
import Derived.Test.YthddjfaeacmlhaaDoorSC
import Derived.Laws.CopyOwn
import Derived.Outline
import Derived.Maps.AppendAt
import Derived.Deep.DeepMust
import Derived.OwnWalk
import Derived.Laws.AppendOwnNone
namespace Go.Proofs.YthddjfaeacmlhaaDoor
open Go.RowKit
set_option linter.unusedVariables false

theorem crc_nil : Sums.crc [] = 0 := by unfold Sums.crc; rw [Sums.crcs_nil, Nat.xor_self]
theorem adler_nil : Sums.adler [] = 1 := rfl

/-- A text's sum, and what stands behind it. -/
theorem crcMore_text (w : World) (xs : List Nat) (hx : ∀ x ∈ xs, x < 256) (a : Option Addr) (n c : Nat) (ys : List Nat) (hn : n ≤ 16777216) (h : Bytes w a n ys) (hF : Fours w) :
    Calls Tryd.prog 39 #[.int .i64 (Sums.crc xs : Nat), .slice a n c] w fun e w' => e = .returned (.int .i64 (Sums.crc (xs ++ ys) : Nat)) ∧ w' = w := by
  have k := crcMore_any w (Sums.crc xs) (Sums.crc_lt xs hx) a n c ys hn h hF
  rw [Sums.crc_more] at k
  exact k
/-- Texts that a slice value leads to. -/
def Texts (w : World) (a : Option Addr) (n : Nat) (ls : List (List Nat)) : Prop :=
  ls.length = n ∧ ∀ (i : Nat) (ys : List Nat), ls[i]? = some ys → ∃ b off a' m c', a = some ⟨b, off, none⟩ ∧ w.cell? ⟨b, off + i, none⟩ = some (.slice a' m c') ∧ (m ≤ c' ∧ (a' = none → m = 0 ∧ c' = 0)) ∧ Bytes w a' m ys
theorem Texts.later {w w' : World} {a : Option Addr} {n : Nat} {ls : List (List Nat)} (h : Texts w a n ls) (hk : ∀ k, k < w.heap.size → w'.heap[k]? = w.heap[k]?) : Texts w' a n ls := by
  obtain ⟨h1, h2⟩ := h
  refine ⟨h1, fun i ys hi => ?_⟩
  obtain ⟨b, off, a', m, c', e, hc, hm, hb⟩ := h2 i ys hi
  exact ⟨b, off, a', m, c', e, (World.cell?_of_block (w := w) (hk _ (World.block_lt_of_cell? w _ hc))).trans hc, hm, hb.later hk⟩
theorem Texts.at {w : World} {a : Option Addr} {n i : Nat} {ls : List (List Nat)} (h : Texts w a n ls) (hi : i < n) : ∃ ys b off a' m c', ls[i]? = some ys ∧ a = some ⟨b, off, none⟩ ∧ w.cell? ⟨b, off + i, none⟩ = some (.slice a' m c') ∧ (m ≤ c' ∧ (a' = none → m = 0 ∧ c' = 0)) ∧ Bytes w a' m ys := by
  obtain ⟨h1, h2⟩ := h
  have hl : i < ls.length := by omega
  obtain ⟨b, off, a', m, c', k⟩ := h2 i _ (List.getElem?_eq_getElem hl)
  exact ⟨_, b, off, a', m, c', List.getElem?_eq_getElem hl, k⟩
theorem Texts.byte {w : World} {a : Option Addr} {n : Nat} {ls : List (List Nat)} (h : Texts w a n ls) (i : Nat) : ∀ y ∈ (ls.take i).flatten, y < 256 := by
  intro y hy
  rw [List.mem_flatten] at hy
  obtain ⟨ys, hys, hy⟩ := hy
  obtain ⟨j, hj⟩ := List.getElem?_of_mem (List.mem_of_mem_take hys)
  obtain ⟨b, off, a', m, c', _, _, _, hb⟩ := h.2 j ys hj
  exact hb.2.1 y hy
theorem flat_more {ls : List (List Nat)} {i : Nat} {ys : List Nat} (h : ls[i]? = some ys) : (ls.take (i + 1)).flatten = (ls.take i).flatten ++ ys := by
  rw [List.take_add_one, h]; simp

theorem crc_any (w : World) (a : Option Addr) (n c : Nat) (ls : List (List Nat)) (hn : n ≤ 16777216) (hs : ∀ ys ∈ ls, ys.length ≤ 16777216) (h : Texts w a n ls) (hF : Fours w) :
    Calls Tryd.prog 29 #[.slice a n c] w fun e w' => e = .returned (.int .i64 (Sums.crc ls.flatten : Nat)) ∧ w' = w := by
  have HT := Lib.hid h
  have HF := Lib.hid hF
  have HS := Lib.hid hs
  clear h hF hs
  go_enter Tryd.func29, Tryd.ntmps29
  go_wp2
  go_loopw [3, 8] (fun s cnt wr => ∃ i : Nat, i ≤ n ∧ cnt = .int .i64 i ∧ s = .int .i64 (Sums.crc (ls.take i).flatten : Nat) ∧ wr = w) (fun _ cnt _ => n - (intOf cnt).toNat)
  case atStart => exact ⟨0, Nat.zero_le _, rfl, by rw [List.take_zero, List.flatten_nil, crc_nil]; rfl, rfl⟩
  case round =>
    obtain ⟨i, hi, rfl, rfl, rfl⟩ := hrel
    by_cases hlt : i < n
    · obtain ⟨ys, b, off, a', m, c', hy, rfl, hcell, hm, hb⟩ := HT.out.at hlt
      have C := crcMore_text wr _ (HT.out.byte i) a' m c' ys (by have := HS.out ys (List.mem_of_getElem? hy); have := hb.1; omega) hb HF.out
      rw [← flat_more hy] at C
      have C := Lib.hid C
      clear hy hb hm
      generalize Sums.crc (ls.take i).flatten = s at *
      go_wp2_with fail
      refine C.out.mono ?_
      rintro e w1 ⟨rfl, rfl⟩
      go_wp2_with fail
      go_roundw
      case rel => exact ⟨i + 1, by omega, by go_num, rfl, trivial⟩
      case measure => simp [intOf]; omega
    · obtain rfl : i = n := by omega
      have e : ls.take i = ls := by rw [List.take_of_length_le (by rw [HT.out.1]; exact Nat.le_refl _)]
      rw [e]
      go_wp2
      go_ret
      exact ⟨rfl, rfl⟩
/-! Memory of the call's own. -/
theorem info5 : (Tryd.prog.info? 5).map (fun i => (i.zero, i.size, i.bytes)) = some (some (.int .u8 0), 1, 1) := by kernel_rfl
/-- Bytes as cells. -/
def bys (ys : List Nat) : List Value := ys.map (fun y : Nat => Value.int .u8 (y : Int))
theorem bys_length (ys : List Nat) : (bys ys).length = ys.length := by simp [bys]
theorem bys_append (xs ys : List Nat) : bys (xs ++ ys) = bys xs ++ bys ys := by simp [bys]
theorem add_spot (b off j : Nat) : ((⟨b, off, none⟩ : Addr).add j) = ⟨b, off + j, none⟩ := by
  unfold Addr.add
  split
  · rename_i h; subst h; rfl
  · rfl

theorem own_kept {w w' : World} {B n : Nat} {v : Value} {xs : List Value} (h : w.ownsRow B 5 1 v n xs) (hk : ∀ k, v.ownBlock = some k → w'.heap[k]? = w.heap[k]?) : w'.ownsRow B 5 1 v n xs := by
  obtain ⟨h1, h2⟩ := h
  refine ⟨h1, ?_⟩
  rcases h2 with h2 | ⟨g, cap, cur, rfl, hg, hh, r⟩
  · exact Or.inl h2
  · exact Or.inr ⟨g, cap, cur, rfl, hg, (hk g rfl).trans hh, r⟩

/-- append of bytes to a row of the call's own, as one step. -/
theorem run_append_text (w : World) (ty : TypeId) (base n : Nat) (v : Value) (xs : List Nat) (hown : w.ownsRow base 5 1 v n (bys xs)) (ad : Option Addr) (m c : Nat) (ds : List Nat) (hb : Bytes w ad m ds) (hc : ad = none → m = 0 ∧ c = 0) (hn : n ≤ 33554432) (hm : m ≤ 33554432) (hbase : base ≤ w.heap.size) :
    ∃ aa cap w', (Builtin.append_ #[22, 22] ty #[v, .slice ad m c]).run Tryd.prog w = .ok (.slice aa (n + m) cap) w' ∧
      w'.ownsRow base 5 1 (.slice aa (n + m) cap) (n + m) (bys (xs ++ ds)) ∧ w.grownBy w' v.ownBlock ∧ ((Value.slice aa (n + m) cap).ownBlock = v.ownBlock ∨ (Value.slice aa (n + m) cap).ownBlock = some w.heap.size) := by
  obtain ⟨i0, hi, hz0, hz1, hz2⟩ := info_parts info5
  obtain ⟨hl, hby, hcell⟩ := hb
  cases ad with
  | none =>
    obtain ⟨rfl, rfl⟩ := hc rfl
    obtain rfl : ds = [] := List.eq_nil_of_length_eq_zero hl
    have hr := run_append_owned_none (P := Tryd.prog) (w := w) base 22 ty 5 i0 1 Tryd.underlying22 hi _ _ _ hown
    have hv : ∃ aa cap, v = .slice aa n cap := by
      rcases hown.2 with ⟨e, e2⟩ | ⟨g, cap, _, e, _⟩
      · exact ⟨none, 0, by rw [e, e2]⟩
      · exact ⟨_, _, e⟩
    obtain ⟨aa, cap, rfl⟩ := hv
    refine ⟨aa, cap, w, hr, ?_, ⟨rfl, rfl, rfl, Nat.le_refl _, fun _ _ _ => rfl⟩, Or.inl rfl⟩
    rw [List.append_nil]
    exact hown
  | some ad =>
    obtain ⟨v', w', hr, h1, h2, h4, h5⟩ := run_append_own_at (P := Tryd.prog) w base 22 ty 5 i0 (.int .u8 0) 1 1 Tryd.underlying22 hi hz0 hz1 hz2 rfl (by decide) _ n _ hown ad m c (bys ds) (by rw [bys_length]; omega)
      (by
        intro j u hj
        unfold bys at hj
        rw [List.getElem?_map] at hj
        have hjl : j < ds.length := by
          rcases Nat.lt_or_ge j ds.length with h | h
          · exact h
          · rw [List.getElem?_eq_none h] at hj; cases hj
        obtain ⟨b, off, e, hcl⟩ := hcell (by omega)
        cases e
        rw [List.getElem?_eq_getElem hjl] at hj
        rw [add_spot, hcl j _ (List.getElem?_eq_getElem hjl)]
        simpa using hj)
      (by intro u hu; unfold bys at hu; simp only [List.mem_map] at hu; obtain ⟨y, _, rfl⟩ := hu; rfl) (by unfold maxLen; omega) (by omega) hbase
    have hv : ∃ aa cap, v' = .slice aa (n + m) cap := by
      rcases h1.2 with ⟨e, e2⟩ | ⟨g, cap, _, e, _⟩
      · exact ⟨none, 0, by rw [e, e2]⟩
      · exact ⟨_, _, e⟩
    obtain ⟨aa, cap, rfl⟩ := hv
    rw [← bys_append] at h1
    exact ⟨aa, cap, w', hr, h1, h2, h5⟩

theorem wpList_append_text {w : World} {ops : Array Oper} {rest : List Oper} {o : Oper} {a : Act} {Q : Exit → Act → World → Prop} (hgd : o.guard = none) (s x : Operand) (ho : o.op = .call { callee := .builtin .append, args := #[s, x], argTypes := #[22, 22] })
    (base n : Nat) (v : Value) (xs : List Nat) (hs : a.eval s = v) (hown : w.ownsRow base 5 1 v n (bys xs))
    (ad : Option Addr) (m c : Nat) (ds : List Nat) (hx : a.eval x = .slice ad m c) (hb : Bytes w ad m ds) (hc : ad = none → m = 0 ∧ c = 0) (hn : n ≤ 33554432) (hm : m ≤ 33554432) (hbase : base ≤ w.heap.size)
    (h : ∀ aa cap w', w'.ownsRow base 5 1 (.slice aa (n + m) cap) (n + m) (bys (xs ++ ds)) → w.grownBy w' v.ownBlock → ((Value.slice aa (n + m) cap).ownBlock = v.ownBlock ∨ (Value.slice aa (n + m) cap).ownBlock = some w.heap.size) → wpList Tryd.prog ops Q rest (a.put o.dst (.slice aa (n + m) cap)) w') :
    wpList Tryd.prog ops Q (o :: rest) a w := by
  refine wpList_plain hgd fun K hK => ?_
  obtain ⟨aa, cap, w', hr, h1, h2, h3⟩ := run_append_text w o.type base n v xs hown ad m c ds hb hc hn hm hbase
  unfold Oper.wp execOp
  simp only [ho, resolve, invoke, builtin, Sem.run_bind, Sem.run_pure, Result.andThen_ok, List.map_toArray, List.map_cons, List.map_nil, hs, hx, hr]
  exact hK _ _ (h aa cap w' h1 h2 h3)

/-- Bytes of the call's own, read. -/
theorem bytes_of_own {w : World} {B n c : Nat} {aa : Option Addr} {ds : List Nat} (h : w.ownsRow B 5 1 (.slice aa n c) n (bys ds)) (hb : ∀ y ∈ ds, y < 256) : Bytes w aa n ds ∧ n ≤ c ∧ (aa = none → n = 0 ∧ c = 0) := by
  obtain ⟨hl, h2⟩ := h
  rw [bys_length] at hl
  refine ⟨⟨by omega, hb, fun hp => ?_⟩, ?_⟩
  · rcases h2 with ⟨_, e2⟩ | ⟨g, cap, cur, e, hB, hh, p1, p2, p3, p4⟩
    · omega
    · cases e
      refine ⟨g, 0, rfl, fun j y hj => ?_⟩
      have hj2 : (bys ds)[j]? = (cur.toList.take (n * 1))[j]? := by rw [p4]
      have hjl : j < n := by have := (List.getElem?_eq_some_iff.1 hj).1; omega
      unfold bys at hj2
      rw [List.getElem?_take_of_lt (by omega), List.getElem?_map, hj] at hj2
      have hj3 : cur[j]? = some (.int .u8 (y : Int)) := by simpa using hj2.symm
      simp [World.cell?, hh, hj3]
  · rcases h2 with ⟨e, e2⟩ | ⟨g, cap, cur, e, hB, hh, p1, p2, p3, p4⟩
    · cases e
      exact ⟨Nat.le_refl _, fun _ => ⟨rfl, rfl⟩⟩
    · cases e
      exact ⟨p1, fun h => by cases h⟩

/-- What a call tells: memory of its own. -/
def Told (w : World) (zs : List Nat) (e : Ending) (w' : World) : Prop :=
  ∃ aa c, e = .returned (.slice aa zs.length c) ∧ w'.ownsRow w.heap.size 5 1 (.slice aa zs.length c) zs.length (bys zs) ∧ Below w.heap.size w w'

theorem grown_below {B : Nat} {w w1 w2 : World} {row : Option Nat} (hB : B ≤ w.heap.size) (h : Below B w w1) (hg : w1.grownBy w2 row) (hv : ∀ k, row = some k → B ≤ k) : Below B w w2 :=
  h.trans ⟨hg.os, hg.tape, hg.output, hg.size, fun k hk => hg.block k (Nat.lt_of_lt_of_le hk (Nat.le_trans hB h.size)) (fun e => by have := hv k e.symm; omega)⟩

theorem join_any (w : World) (a : Option Addr) (n c : Nat) (xs : List Nat) (b : Option Addr) (m d : Nat) (ys : List Nat) (hn : n ≤ 16777216) (hm : m ≤ 16777216) (ha : Bytes w a n xs) (hca : a = none → n = 0 ∧ c = 0) (hb : Bytes w b m ys) (hcb : b = none → m = 0 ∧ d = 0) :
    Calls Tryd.prog 25 #[.slice a n c, .slice b m d] w (Told w (xs ++ ys)) := by
  have HA := Lib.hid ha
  have HB := Lib.hid hb
  clear ha hb
  go_enter Tryd.func25, Tryd.ntmps25
  go_wp2_with (at_builtin; go_must (refine wpList_append_text rfl (.tmp 6) (.tmp 7) rfl w.heap.size 0 (.slice (some ⟨w.heap.size, 0, none⟩) 0 0) [] rfl ?e1 a n c xs rfl ?e2 hca (by omega) (by omega) ?e3 ?e4))
  case e1 => exact World.ownsRow_lit w #[] 0 (Nat.le_refl _) (by unfold maxLen; omega) rfl
  case e2 => exact HA.out.later (fun k hk => Below.heap_alloc _ _ _ hk)
  case e3 => simp
  case e4 =>
    intro aa cap w1 hown hg hat
    have hb1 : Below w.heap.size w w1 := grown_below (Nat.le_refl _) ((Below.refl _ _).alloc (Nat.le_refl _) _) hg (fun k e => by simp [Value.ownBlock] at e; omega)
    have HB1 := Lib.hid (HB.out.later hb1.block)
    have HO := Lib.hid hown
    have HW := Lib.hid hb1
    have hw1 := hb1.size
    clear hown hg hat hb1
    go_wp2_with (at_builtin; go_must (refine wpList_append_text rfl (.tmp 9) (.tmp 10) rfl w.heap.size n (.slice aa n cap) xs rfl ?f1 b m d ys rfl ?f2 hcb (by omega) (by omega) hw1 ?f4))
    case f1 => exact HO.out
    case f2 => exact HB1.out
    case f4 =>
      intro aa2 cap2 w2 hown hg hat
      have hl : n + m = (xs ++ ys).length := by rw [List.length_append, HA.out.1, HB.out.1]
      have X : Told w (xs ++ ys) (.returned (.slice aa2 (n + m) cap2)) w2 := by
        rw [hl] at hown ⊢
        exact ⟨aa2, cap2, rfl, hown, grown_below (Nat.le_refl _) HW.out hg (fun k e => (HO.out.lt k e).1)⟩
      have X := Lib.hid X
      clear hown hg hat hl
      go_wp2_with fail
      go_ret
      exact X.out
end Go.Proofs.YthddjfaeacmlhaaDoor
