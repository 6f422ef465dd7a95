/- The contract of Bytes. -/
import Derived.Test.YteeapkbmlhlhjaaE
import Derived.Laws.CopyOwn
namespace Go.Proofs.Yteeapkbmlhlhjaa
open Go.RowKit

/-- make with a length and a capacity. -/
theorem wpList_make_cap {w : World} {ops : Array Oper} {rest : List Oper} {o : Oper} {a : Act} {Q : Exit → Act → World → Prop} (hg : o.guard = none) (l c : Operand) (hop : o.op = Op.makeSlice 33 l c)
    (n m : Nat) (hl : a.eval l = .int .i64 n) (hc : a.eval c = .int .i64 m) (hnm : n ≤ m) (hm : m ≤ 33554432)
    (hK : ∀ w', w'.ownsRow w.heap.size 5 1 (.slice (some ⟨w.heap.size, 0, none⟩) n m) n ((madeCells #[.int .u8 0] m).toList.take n) → w'.heap[w.heap.size]? = some (.cells (madeCells #[.int .u8 0] m) 5 (0, 0)) → Below w.heap.size w w' → wpList Try.prog ops Q rest (a.put o.dst (.slice (some ⟨w.heap.size, 0, none⟩) n m)) w') :
    wpList Try.prog ops Q (o :: rest) a w := by
  obtain ⟨i0, hi, hz0, hz1, hz2⟩ := info_parts info5
  have hr := run_make (P := Try.prog) w 33 5 i0 (.int .u8 0) Try.underlying33 hi hz0 .i64 .i64 n m (by omega) (by omega) (by rw [hz2]; omega) (by omega)
  rw [hz1, Nat.mul_one, Int.toNat_natCast, Int.toNat_natCast] at hr
  refine wpList_plain hg fun K hK' => ?_
  unfold Oper.wp
  simp [execOp, hop, hl, hc, hr, Result.andThen]
  refine hK' _ _ (hK _ ⟨?_, Or.inr ⟨w.heap.size, m, madeCells #[.int .u8 0] m, rfl, Nat.le_refl _, ?_, hnm, by unfold maxLen; omega, by simp [size_madeCells], by simp⟩⟩ ?_ ((Below.refl _ _).alloc (Nat.le_refl _) _))
  · simp [size_madeCells]; omega
  · exact heap_alloc_new _ _
  · exact heap_alloc_new _ _

theorem wpList_append_byte {w : World} {ops : Array Oper} {rest : List Oper} {o : Oper} {a : Act} {Q : Exit → Act → World → Prop} (hgd : o.guard = none) (s x : Operand) (ho : o.op = .call { callee := .builtin .append, args := #[s, x], argTypes := #[33, 33] })
    (base n : Nat) (v : Value) (xs : List Int) (hs : a.eval s = v) (hown : w.ownsRow base 5 1 v n (xs.map (Value.int .u8)))
    (ad : Addr) (c : Nat) (b : Int) (hx : a.eval x = .slice (some ad) 1 c) (hcell : w.cell? ad = some (.int .u8 b)) (hb : n ≤ 33554432) (hbase : base ≤ w.heap.size)
    (h : ∀ aa cap w', w'.ownsRow base 5 1 (.slice aa (n + 1) cap) (n + 1) (xs.map (Value.int .u8) ++ [.int .u8 b]) → w.grownBy w' v.ownBlock → ((Value.slice aa (n + 1) cap).ownBlock = v.ownBlock ∨ (Value.slice aa (n + 1) cap).ownBlock = some w.heap.size) → wpList Try.prog ops Q rest (a.put o.dst (.slice aa (n + 1) cap)) w') :
    wpList Try.prog ops Q (o :: rest) a w := by
  refine wpList_plain hgd fun K hK => ?_
  obtain ⟨aa, cap, w', hr, h1, h2, h3⟩ := run_append_byte w o.type base n v xs hown ad c b hcell hb hbase
  unfold Oper.wp execOp
  simp only [ho, resolve, invoke, builtin, Sem.run_bind, Sem.run_pure, Result.andThen_ok, List.map_toArray, List.map_cons, List.map_nil, hs, hx, hr]
  exact hK _ _ (h aa cap w' h1 h2 h3)

/-- What Bytes tells: memory of its own. -/
def Told (w : World) (ys : List Int) (e : Ending) (w' : World) : Prop :=
  ∃ aa c, e = .returned (.slice aa ys.length c) ∧ w'.ownsRow w.heap.size 5 1 (.slice aa ys.length c) ys.length (ys.map (Value.int .u8)) ∧ Below w.heap.size w w'

theorem packed_zero (high : Bool) (L : List Bool) (h : L.length % 8 = 0) : packed high L = fulls high L (L.length / 8) := by
  unfold packed; rw [show (L.length + 7) / 8 = L.length / 8 by omega]
theorem packed_rest (high : Bool) (L : List Bool) (h : L.length % 8 ≠ 0) : packed high L = fulls high L (L.length / 8) ++ [(byteAt high L (L.length / 8) : Int)] := by
  unfold packed; rw [show (L.length + 7) / 8 = L.length / 8 + 1 by omega, fulls_succ]
theorem byteAt_rest (high : Bool) (L : List Bool) : byteAt high L (L.length / 8) = if high then val true (L.drop (8 * (L.length / 8))) * 2 ^ (8 - L.length % 8) else val false (L.drop (8 * (L.length / 8))) := by
  unfold byteAt byteOf
  rw [List.take_of_length_le (by simp; omega), List.length_drop, show L.length - 8 * (L.length / 8) = L.length % 8 by omega]

theorem Told.grown {w w2 W w3 : World} {xs : List Int} {b : Int} {aa : Option Addr} {cap g c n : Nat} (hn : n = xs.length) (hb : Below w.heap.size w w2) (hW : Below w.heap.size w2 W) (hg : W.grownBy w3 (Value.slice (some ⟨g, 0, none⟩) n c).ownBlock) (hge : w.heap.size ≤ g)
    (hown : w3.ownsRow w.heap.size 5 1 (.slice aa (n + 1) cap) (n + 1) (xs.map (Value.int .u8) ++ [.int .u8 b])) : Told w (xs ++ [b]) (.returned (.slice aa (n + 1) cap)) w3 := by
  subst hn
  refine ⟨aa, cap, by simp, by simpa using hown, ?_⟩
  have h1 := hb.trans hW
  exact h1.trans ⟨hg.os, hg.tape, hg.output, hg.size, fun k hk => hg.block k (Nat.lt_of_lt_of_le hk h1.size) (by intro e; simp [Value.ownBlock] at e; omega)⟩

set_option maxHeartbeats 800000 in
theorem bytes_any (w : World) (B P : Nat) (D : Option Nat) (high : Bool) (L : List Bool) (h : Wr w B P D high L) (hl : L.length ≤ 16777216) :
    Calls Try.prog 14 #[.pointer (some ⟨P, 0, none⟩)] w (Told w (packed high L)) := by
  have hPlt := Raw.lt h
  have hfb := fulls_byte high L (L.length / 8)
  obtain ⟨a, c, h0, h1, h2, h3, hf, hown, hd⟩ := Raw.open h
  have hsrc : ∀ j v, ((fulls high L (L.length / 8)).map (Value.int .u8))[j]? = some v → ∃ ad, a = some ad ∧ w.cell? (ad.add j) = some v := by
    intro j v hj
    rcases hown.2 with ⟨e, e2⟩ | ⟨g, cap, _, e, _⟩
    · have := (List.getElem?_eq_some_iff.1 hj).1
      simp only [List.length_map] at this
      omega
    · cases e
      exact ⟨_, rfl, hown.cells (g := g) rfl j v hj⟩
  rw [fulls_length] at h1
  have hpk := packed_rest high L
  have hpz := packed_zero high L
  have hbr := byteAt_rest high L
  have hrl := val_lt high (L.drop (8 * (L.length / 8)))
  rw [List.length_drop, show L.length - 8 * (L.length / 8) = L.length % 8 by omega] at hrl
  have hfl := fulls_length high L (L.length / 8)
  have hu8 : L.length % 8 < 8 := Nat.mod_lt _ (by omega)
  have hq : L.length / 8 ≤ 16777216 := by omega
  clear h hf hown hd
  generalize fulls high L (L.length / 8) = xs at *
  generalize byteAt high L (L.length / 8) = bt at *
  generalize hr : val high (L.drop (8 * (L.length / 8))) = r at *
  generalize packed high L = pk at *
  generalize L.length / 8 = q at *
  generalize L.length % 8 = u at *
  have HS := Lib.hid hsrc
  have HPK := Lib.hid hpk
  have HPZ := Lib.hid hpz
  have HBR := Lib.hid hbr
  have HRL := Lib.hid hrl
  have HR := Lib.hid hr
  have HFL := Lib.hid hfl
  clear hsrc hpk hpz hbr hrl hfl hfb hl hr
  go_enter Try.func14, Try.ntmps14
  go_wp2
  go_still_tail 11, (by kernel_rfl)
  change wpList _ _ _ _ _ w.drew
  go_wp2_with (at_make; go_must (refine wpList_make_cap rfl (.tmp 8) (.tmp 14) rfl q (q + 1) rfl ?c1 (by omega) (by omega) ?c2))
  case c1 =>
    show Value.int .i64 (IntKind.i64.wrap ((q : Int) + 1)) = _
    rw [wrap_i64 _ (by omega) (by omega)]
    simp
  case c2 =>
    intro w1 hown1 hb1 hbel1
    have hg1 : w1.heap[w.heap.size]? = some (.cells (madeCells #[.int .u8 0] (q + 1)).toList.toArray 5 (0, 0)) := by simpa using hb1
    have hbl : Below w.heap.size w w1 := ⟨hbel1.os, hbel1.tape, hbel1.output, hbel1.size, fun k hk => hbel1.block k hk⟩
    have k0 : w1.cell? ⟨P, 0, none⟩ = some (.bool high) := (hbl.cell (p := ⟨P, 0, none⟩) hPlt).trans h0
    have k1 : w1.cell? ⟨P, 1, none⟩ = some (.slice a q c) := (hbl.cell (p := ⟨P, 1, none⟩) hPlt).trans h1
    have HS1 := Lib.hid (show ∀ j v, (xs.map (Value.int .u8))[j]? = some v → ∃ ad, a = some ad ∧ w1.cell? (ad.add j) = some v by
      intro j v hj
      obtain ⟨ad, e, hc⟩ := HS.out j v hj
      exact ⟨ad, e, (World.cell?_of_block (w := w) (hbl.block _ (World.block_lt_of_cell? w _ hc))).trans hc⟩)
    have HB := Lib.hid hbl
    have HG := Lib.hid hg1
    clear hown1 hb1 hbel1 hg1 hbl
    go_wp2_with (with_reducible refine wpList_copy_splice rfl (.tmp 16) (.tmp 20) 33 33 rfl 5 Try.underlying33 (by kernel_rfl) (some ⟨w.heap.size, 0, none⟩) a q (q + 1) q c rfl rfl w.heap.size 0 _ 5 HG.out (xs.map (Value.int .u8)) ?d1 ?d2 ?d3 ?d4 w.heap.size w HB.out (Nat.le_refl _) ?d5)
    case d1 => rw [List.length_map, HFL.out]; simp
    case d2 =>
      intro hp
      obtain ⟨ad, e, _⟩ := HS1.out 0 _ (List.getElem?_eq_getElem (by simpa using hp))
      refine ⟨ad, e, ?_⟩
      intro j v hj
      obtain ⟨ad', e', h⟩ := HS1.out j (.int .u8 v) (by rw [List.getElem?_map, hj]; rfl)
      rw [e] at e'
      cases e'
      exact h
    case d3 => have := HFL.out; simp [size_madeCells]; omega
    case d4 => intro u hu; simp only [List.mem_map] at hu; obtain ⟨y, _, rfl⟩ := hu; rfl
    case d5 =>
      intro w2 hh hb2
      have m0 : w2.cell? ⟨P, 0, none⟩ = some (.bool high) := (hb2.cell (p := ⟨P, 0, none⟩) hPlt).trans h0
      have m2 : w2.cell? ⟨P, 2, none⟩ = some (.int .i64 r) := (hb2.cell (p := ⟨P, 2, none⟩) hPlt).trans h2
      have m3 : w2.cell? ⟨P, 3, none⟩ = some (.int .i64 u) := (hb2.cell (p := ⟨P, 3, none⟩) hPlt).trans h3
      have hP2 : P < w2.heap.size := Nat.lt_of_lt_of_le hPlt hb2.size
      have hown2 : w2.ownsRow w.heap.size 5 1 (.slice (some ⟨w.heap.size, 0, none⟩) q (q + 1)) q (xs.map (Value.int .u8)) := by
        refine ⟨by simp [HFL.out], Or.inr ⟨w.heap.size, q + 1, _, rfl, Nat.le_refl _, hh.out, by omega, by unfold maxLen; omega, ?_, ?_⟩⟩
        · simp only [splice, List.take_zero, List.nil_append, List.length_map, List.size_toArray, List.length_append, List.length_drop, Array.length_toList, size_madeCells, HFL.out]
          omega
        · simp only [splice, List.take_zero, List.nil_append, Nat.zero_add, Nat.mul_one]
          rw [List.take_append_of_le_length (by simp [HFL.out]), List.take_of_length_le (by simp [HFL.out])]
      have HB2 := Lib.hid hb2
      have HO2 := Lib.hid hown2
      have hw2 : w.heap.size ≤ w2.heap.size := hb2.size
      clear hh hb2 hown2 k0 k1 h0 h1 h2 h3
      by_cases hz : u = 0
      · subst hz
        go_wp2
        go_ret
        have e1 := HPZ.out trivial
        rw [e1]
        exact ⟨_, _, by rw [HFL.out]; rfl, by rw [HFL.out]; exact HO2.out, HB2.out⟩
      · have hzu : ((u : Int) == 0) = false := by simp; omega
        cases high
        · have OW := Lib.hid (own_kept (w' := w2.alloc (.cells #[.int .u8 (bt : Int)] 5)) HO2.out (fun k e => Below.heap_alloc _ _ _ ((HO2.out.lt k e).2)))
          have hbt : IntKind.u8.wrap (r : Int) = (bt : Int) := by
            have h1 := HBR.out
            have h2 := HRL.out
            have h3 : 2 ^ u ≤ 2 ^ 8 := Nat.pow_le_pow_right (by omega) (by omega)
            simp only [Bool.false_eq_true, if_false] at h1
            rw [HR.out] at h1
            rw [wrap_u8_nat]
            omega
          go_wp2_with (at_builtin; go_must (refine wpList_append_byte rfl (.tmp 46) (.tmp 52) rfl w.heap.size q (.slice (some ⟨w.heap.size, 0, none⟩) q (q + 1)) xs rfl ?e1 ⟨w2.heap.size, 0, none⟩ 1 (bt : Int) rfl ?e2 (by omega) ?e3 ?e4))
          case e1 => exact OW.out
          case e2 => simp
          case e3 => simp; omega
          case e4 =>
            intro aa cap w3 hown3 hg3 hat3
            have X := Lib.hid (Told.grown HFL.out.symm HB2.out ((Below.refl _ _).alloc hw2 _) hg3 (Nat.le_refl _) hown3)
            clear hown3 hg3 hat3
            go_wp2
            go_ret
            rw [HPK.out (by omega)]
            exact X.out
        · have OW := Lib.hid (own_kept (w' := (w2.alloc (.cells #[.int .u8 (bt : Int)] 5)).drew) HO2.out (fun k e => Below.heap_alloc _ _ _ ((HO2.out.lt k e).2)))
          have hbt : IntKind.u8.wrap (wrap64 ((r : Int) * 2 ^ (8 - u))) = (bt : Int) := by
            have h1 := HBR.out
            have h2 := HRL.out
            simp only [if_true] at h1
            rw [HR.out] at h1
            have e : 2 ^ u * 2 ^ (8 - u) = 256 := by rw [← Nat.pow_add, show u + (8 - u) = 8 by omega]
            have h3 : r * 2 ^ (8 - u) < 2 ^ u * 2 ^ (8 - u) := Nat.mul_lt_mul_of_pos_right h2 (Nat.two_pow_pos _)
            rw [two_pow_cast, ← Int.natCast_mul, IntWalk.wrap64_in _ (by omega), wrap_u8_nat]
            omega
          obtain ⟨t, ht⟩ : ∃ t, t = 8 - u := ⟨_, rfl⟩
          have h8u : (8 : Int) - (u : Int) = (t : Int) := by omega
          have ht8 : t ≤ 8 := by omega
          rw [← ht] at hbt
          have hw8 : IntKind.i64.wrap (t : Int) = (t : Int) := wrap_i64 _ (by omega) (by omega)
          have hbt2 : IntKind.u8.wrap (IntKind.i64.wrap ((r : Int) * 2 ^ t)) = (bt : Int) := by rw [← hbt, IntWalk.i64_left]
          have hbt3 : IntKind.u8.wrap (IntKind.i64.wrap ((r : Int) * 2 ^ min t 64)) = (bt : Int) := by rw [← hbt2, Nat.min_eq_left (by omega)]
          clear ht
          go_wp2
          go_region_law (refine step_append_byte (by rfl) (.tmp 32) (.tmp 44) (by rfl) w.heap.size q (.slice (some ⟨w.heap.size, 0, none⟩) q (q + 1)) xs (by rfl) OW.out ⟨w2.heap.size, 0, none⟩ 1 (bt : Int) (by rfl) (by simp) (by omega) (by simp; omega) ?_; intro aa cap w3 hown3 hg3 hat3)
          all_goals
            have X := Lib.hid (Told.grown HFL.out.symm HB2.out (((Below.refl _ _).alloc hw2 _).drew) hg3 (Nat.le_refl _) hown3)
            clear hown3 hg3 hat3
            go_wp2
            go_ret
            rw [HPK.out (by omega)]
            exact X.out
end Go.Proofs.Yteeapkbmlhlhjaa
