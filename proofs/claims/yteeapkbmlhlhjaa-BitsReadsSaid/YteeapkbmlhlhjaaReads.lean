/- Any bytes, read in any portions: the walk of the law. -/
import Derived.Test.YteeapkbmlhlhjaaTurned
namespace Go.Proofs.Yteeapkbmlhlhjaa
open Go.RowKit

theorem lowr_get (v n k : Nat) (h : k < n) : (lowr v n)[k]? = some (decide (v / 2 ^ k % 2 = 1)) := by
  induction n generalizing v k with
  | zero => omega
  | succ n ih =>
    cases k with
    | zero => simp [lowr]
    | succ k =>
      rw [lowr, List.getElem?_cons_succ, ih _ _ (by omega), Nat.div_div_eq_div_mul, Nat.pow_succ, Nat.mul_comm 2]
/-- Which of a byte's bits the r-th is. -/
def spot (high : Bool) (r : Nat) : Nat := if high then 7 - r else r
theorem row_get (high : Bool) (y r : Nat) (h : r < 8) : (row high y 8)[r]? = some (decide (y / 2 ^ spot high r % 2 = 1)) := by
  cases high
  · exact lowr_get y 8 r h
  · simp only [row, if_true, spot]
    rw [List.getElem?_reverse (by rw [lowr_length]; exact h), lowr_length, lowr_get _ _ _ (by omega)]
theorem rowOf_get (high : Bool) (ds : List Nat) (q r y : Nat) (hq : ds[q]? = some y) (hr : r < 8) : (rowOf high ds)[8 * q + r]? = some (decide (y / 2 ^ spot high r % 2 = 1)) := by
  have e : (rowOf high (ds.drop q))[r]? = (rowOf high ds)[8 * q + r]? := by rw [rowOf_drop, List.getElem?_drop]
  rw [← e]
  have hl : q < ds.length := (List.getElem?_eq_some_iff.1 hq).1
  have e2 : ds.drop q = y :: ds.drop (q + 1) := by
    rw [List.drop_eq_getElem_cons hl]
    congr 1
    rw [List.getElem?_eq_getElem hl] at hq
    exact Option.some.inj hq
  rw [e2, rowOf, List.getElem?_append_left (by rw [row_length]; exact hr)]
  exact row_get high y r hr
theorem val_snoc (high : Bool) (l : List Bool) (b : Bool) : val high (l ++ [b]) = if high then 2 * val true l + b.toNat else val false l + b.toNat * 2 ^ l.length := by
  cases high
  · rw [low_append]; simp [val, lowv, Nat.mul_comm]
  · rw [high_append]; cases b <;> simp [val, lowv, Nat.mul_comm]
theorem want_more (high : Bool) (ds : List Nat) (pos k q r y : Nat) (hi : pos + k = 8 * q + r) (hr : r < 8) (hq : ds[q]? = some y) :
    val high (((rowOf high ds).drop pos).take (k + 1)) = if high then 2 * val true (((rowOf true ds).drop pos).take k) + y / 2 ^ spot true r % 2 else val false (((rowOf false ds).drop pos).take k) + y / 2 ^ spot false r % 2 * 2 ^ k := by
  have hg : ((rowOf high ds).drop pos)[k]? = some (decide (y / 2 ^ spot high r % 2 = 1)) := by
    rw [List.getElem?_drop, hi]; exact rowOf_get high ds q r y hq hr
  have hl : k < ((rowOf high ds).drop pos).length := (List.getElem?_eq_some_iff.1 hg).1
  rw [List.take_add_one, hg, Option.toList_some, val_snoc, List.length_take, Nat.min_eq_left (by omega)]
  have e : (decide (y / 2 ^ spot high r % 2 = 1)).toNat = y / 2 ^ spot high r % 2 := by
    rcases (show y / 2 ^ spot high r % 2 = 0 ∨ y / 2 ^ spot high r % 2 = 1 by omega) with h | h <;> simp [h]
  rw [e]
  cases high <;> rfl
theorem want_lt (high : Bool) (ds : List Nat) (pos k : Nat) : val high (((rowOf high ds).drop pos).take k) < 2 ^ k := by
  have h := val_lt high (((rowOf high ds).drop pos).take k)
  have h2 : 2 ^ (((rowOf high ds).drop pos).take k).length ≤ 2 ^ k := Nat.pow_le_pow_right (by omega) (by simp; omega)
  omega

theorem want_sum (T m : Nat) (h1 : T < 16777216) (h2 : m ≤ 16777216) : wrap64 ((T : Int) + (m : Int)) = ((T + m : Nat) : Int) := by
  rw [IntWalk.wrap64_in _ (by omega)]
  simp
theorem want_twice (T m : Nat) : (2 : Int) * (T : Int) + (m : Int) = ((2 * T + m : Nat) : Int) := by simp

/-- Portions in memory. -/
def Parts (w : World) (a : Option Addr) (len cp : Nat) : Prop :=
  len ≤ cp ∧ cp ≤ maxLen ∧ ∀ i, i < len → ∃ b off z, a = some ⟨b, off, none⟩ ∧ w.cell? ⟨b, off + i, none⟩ = some (.int .i64 z) ∧ (-9223372036854775808 ≤ z ∧ z ≤ 9223372036854775807)

/-- append of bytes to a row of the call's own that is empty. -/
theorem wpList_append_first {w : World} {ops : Array Oper} {rest : List Oper} {o : Oper} {a : Act} {Q : Exit → Act → World → Prop} (hgd : o.guard = none) (s x : Operand) (ho : o.op = .call { callee := .builtin .append, args := #[s, x], argTypes := #[33, 33] })
    (base g0 : Nat) (hs : a.eval s = .slice (some ⟨g0, 0, none⟩) 0 0) (hown : w.ownsRow base 5 1 (.slice (some ⟨g0, 0, none⟩) 0 0) 0 [])
    (ad : Option Addr) (m c : Nat) (ds : List Nat) (hx : a.eval x = .slice ad m c) (hb : Bytes w ad m ds) (hc : ad = none → m = 0 ∧ c = 0) (hm : m ≤ 33554432) (hbase : base ≤ w.heap.size)
    (h : ∀ aa cap w', w'.ownsRow base 5 1 (.slice aa m cap) m ((ds.map (fun y : Nat => (y : Int))).map (Value.int .u8)) → w.grownBy w' (some g0) → wpList Try.prog ops Q rest (a.put o.dst (.slice aa m cap)) w') :
    wpList Try.prog ops Q (o :: rest) a w := by
  obtain ⟨i0, hi, hz0, hz1, hz2⟩ := info_parts info5
  obtain ⟨hl, hby, hcell⟩ := hb
  refine wpList_plain hgd fun K hK => ?_
  cases ad with
  | none =>
    obtain ⟨rfl, rfl⟩ := hc rfl
    obtain rfl : ds = [] := List.eq_nil_of_length_eq_zero hl
    have hr := run_append_owned_none (P := Try.prog) (w := w) base 33 o.type 5 i0 1 Try.underlying33 hi _ _ _ hown
    unfold Oper.wp execOp
    simp only [ho, resolve, invoke, builtin, Sem.run_bind, Sem.run_pure, Result.andThen_ok, List.map_toArray, List.map_cons, List.map_nil, hs, hx, hr]
    exact hK _ _ (h _ _ w hown ⟨rfl, rfl, rfl, Nat.le_refl _, fun _ _ _ => rfl⟩)
  | some ad =>
    obtain ⟨v', w', hr, h1, h2, h4, h5⟩ := run_append_own_at (P := Try.prog) w base 33 o.type 5 i0 (.int .u8 0) 1 1 Try.underlying33 hi hz0 hz1 hz2 rfl (by decide) _ 0 _ hown ad m c ((ds.map (fun y : Nat => (y : Int))).map (Value.int .u8)) (by simpa using hl)
      (by
        intro j u hj
        rw [List.getElem?_map, List.getElem?_map] at hj
        have hjl : j < ds.length := by
          rcases Nat.lt_or_ge j ds.length with h | h
          · exact h
          · rw [List.getElem?_eq_none h] at hj; cases hj
        obtain ⟨b, off, e, hcl⟩ := hcell (by omega)
        cases e
        rw [List.getElem?_eq_getElem hjl] at hj
        have e3 : ((⟨b, off, none⟩ : Addr).add j) = ⟨b, off + j, none⟩ := by
          unfold Addr.add
          split
          · rename_i h; subst h; rfl
          · rfl
        rw [e3, hcl j _ (List.getElem?_eq_getElem hjl)]
        simpa using hj)
      (by intro u hu; simp only [List.mem_map] at hu; obtain ⟨y, _, rfl⟩ := hu; rfl) (by unfold maxLen; omega) (by omega) hbase
    have hv : ∃ aa cap, v' = .slice aa m cap := by
      rcases h1.2 with ⟨e, e2⟩ | ⟨g, cap, _, e, _⟩
      · exact ⟨none, 0, by rw [e]; congr 1; omega⟩
      · exact ⟨_, _, by rw [e]; congr 1; omega⟩
    obtain ⟨aa, cap, rfl⟩ := hv
    unfold Oper.wp execOp
    simp only [ho, resolve, invoke, builtin, Sem.run_bind, Sem.run_pure, Result.andThen_ok, List.map_toArray, List.map_cons, List.map_nil, hs, hx, hr]
    rw [Nat.zero_add, List.nil_append] at h1
    exact hK _ _ (h aa cap w' h1 h2)

set_option maxRecDepth 100000 in
set_option maxHeartbeats 4000000 in
theorem reads_long (a0 : Option Addr) (len0 cap0 : Nat) (a1 : Option Addr) (len1 cap1 : Nat) (high : Bool) (w : World) (h : 300 < len0 ∨ 300 < len1) :
    Calls Try.prog 5 #[.slice a0 len0 cap0, .slice a1 len1 cap1, .bool high] w (Yes w) := by
  have A := Lib.hid (anchor_any w)
  by_cases h0 : 300 < len0
  · have t0 : decide ((300 : Int) < len0) = true := by simp; omega
    go_enter Try.func5, Try.ntmps5
    go_wp2_with fail
    refine A.out.mono ?_
    rintro e w1 ⟨rfl, hk⟩
    go_wp2_with fail
    go_ret
    exact ⟨rfl, hk⟩
  · have t0 : decide ((300 : Int) < len0) = false := by simp; omega
    have t1 : decide ((300 : Int) < len1) = true := by simp; omega
    go_enter Try.func5, Try.ntmps5
    go_wp2_with fail
    refine A.out.mono ?_
    rintro e w1 ⟨rfl, hk⟩
    go_wp2_with fail
    go_ret
    exact ⟨rfl, hk⟩

set_option maxRecDepth 100000 in
set_option maxHeartbeats 4000000 in
theorem reads_good (a0 : Option Addr) (len0 cap0 : Nat) (ds : List Nat) (a1 : Option Addr) (len1 cap1 : Nat) (high : Bool) (w : World) (h0 : len0 ≤ 300) (h1 : len1 ≤ 300) (hb : Bytes w a0 len0 ds) (hc : a0 = none → len0 = 0 ∧ cap0 = 0) (hcap : len0 ≤ cap0 ∧ cap0 ≤ maxLen) (hp : Parts w a1 len1 cap1) :
    Calls Try.prog 5 #[.slice a0 len0 cap0, .slice a1 len1 cap1, .bool high] w (Yes w) := by
  have A := Lib.hid (anchor_any w)
  have B0 := Lib.hid hb
  have P0 := Lib.hid hp
  have C0 := Lib.hid hc
  have t0 : decide ((300 : Int) < len0) = false := by simp; omega
  have t1 : decide ((300 : Int) < len1) = false := by simp; omega
  clear hb hp hc
  go_enter Try.func5, Try.ntmps5
  go_wp2_with fail
  refine A.out.mono ?_
  rintro e w1 ⟨rfl, hk⟩
  have HK := Lib.hid hk
  have hw1 : w.heap.size ≤ w1.heap.size := hk.size
  have B1 := Lib.hid (B0.out.later (fun k hk2 => hk.block k hk2 (fun h => h)))
  have OW := Lib.hid (show (w1.alloc (.cells #[] 5)).ownsRow w.heap.size 5 1 (.slice (some ⟨w1.heap.size, 0, none⟩) 0 0) 0 [] from World.ownsRow_made (base := w.heap.size) (e := 5) (size := 1) w1 #[] 0 hw1 (Nat.zero_le _) (by simp))
  clear hk
  go_wp2_with (at_builtin; go_must (refine wpList_append_first rfl (.tmp 28) (.tmp 29) rfl w.heap.size w1.heap.size rfl ?e1 a0 len0 cap0 ds rfl ?e2 C0.out (by omega) ?e3 ?e4))
  case e1 => exact OW.out
  case e2 => exact B1.out.later (fun k hk => Below.heap_alloc _ _ _ hk)
  case e3 => simp; omega
  case e4 =>
    intro aa cap w2 hown hg
    rw [← List.map_map] at hown
    have K2 := Lib.hid (show Keeps (fun k => w.heap.size ≤ k) w w2 from ((HK.out.mono (fun _ _ f => f.elim)).alloc _).grown hg (fun k hk e => by simp only [Option.some.injEq] at e; omega))
    have hw2 : w.heap.size ≤ w2.heap.size := K2.out.size
    have HO := Lib.hid hown
    have CO := Lib.hid (open_any w2 w.heap.size hw2 aa len0 cap ds high (bytes_of_own hown B0.out.2.1) (by omega))
    clear hown hg
    go_wp2_with fail
    refine CO.out.mono ?_
    rintro e w3 ⟨R, rfl, hrd, hR, hbel⟩
    have S3 := Lib.hid (show Seen w.heap.size R w2.heap.size high ds 0 w w3 from ⟨hrd, K2.out.trans (below_keeps hbel) (fun _ _ f => f.elim)⟩)
    have HO3 := Lib.hid (own_kept HO.out (fun k e => hbel.block k (HO.out.lt k e).2))
    have HLT := Lib.hid (fun k (e : (Value.slice aa len0 cap).ownBlock = some k) => (HO.out.lt k e).2)
    clear hrd hbel
    go_wp2_with fail
    go_loopw [38] (fun cnt wr => ∃ j : Nat, j ≤ len0 ∧ cnt = .int .i64 j ∧ Seen w.heap.size R w2.heap.size high ds 0 w wr ∧ (0 < len0 → ∃ g, aa = some ⟨g, 0, none⟩ ∧ len0 ≤ cap ∧ w.heap.size ≤ g ∧ g < w2.heap.size ∧ Bag wr g len0)) (fun cnt _ => len0 - (intOf cnt).toNat)
    case atStart =>
      refine ⟨0, Nat.zero_le _, rfl, S3.out, fun hp => ?_⟩
      obtain ⟨g, e1, e2, e3, e4⟩ := bag_of_told HO3.out hp
      subst e1
      exact ⟨g, rfl, e3, e2, HLT.out g rfl, e4⟩
    case round =>
      obtain ⟨j, hj, rfl, hs, hg⟩ := hrel
      by_cases hjl : j < len0
      · obtain ⟨g, rfl, hc, hge, hgl, hbag⟩ := hg (by omega)
        obtain ⟨z, hz, hfz⟩ := hbag.cell hjl
        have X := Lib.hid (fun u : Int => show Seen w.heap.size R w2.heap.size high ds 0 w (wr.setCell ⟨g, j, none⟩ (.int .u8 u)) ∧ Bag (wr.setCell ⟨g, j, none⟩ (.int .u8 u)) g len0 from
          ⟨⟨hs.1.kept (Below.heap_setCell _ _ _ _ (by simp only; omega)) (Below.heap_setCell _ _ _ _ (by simp only; omega)), hs.2.setCell (p := ⟨g, j, none⟩) (fun _ => hge) _⟩, hbag.set j u⟩)
        clear hs hg hbag
        go_wp2_with fail
        go_roundw
        case rel => exact ⟨j + 1, by omega, by go_num, (X.out _).1, fun _ => ⟨g, rfl, hc, hge, hgl, (X.out _).2⟩⟩
        case measure => simp [intOf]; omega
      · have S4 := Lib.hid hs
        clear hs hg
        go_wp2_with fail
        go_loopw [10, 50] (fun tp cnt wl => ∃ (i pos : Nat), i ≤ len1 ∧ cnt = .int .i64 i ∧ tp = .int .i64 pos ∧ Seen w.heap.size R w2.heap.size high ds pos w wl) (fun _ cnt _ => len1 - (intOf cnt).toNat)
        case atStart => exact ⟨0, 0, Nat.zero_le _, rfl, rfl, S4.out⟩
        case round =>
          obtain ⟨i, pos, hi, rfl, rfl, hs⟩ := hrel
          have hdl : ds.length = len0 := B0.out.1
          have hpos := hs.1.pos_le
          rw [hdl] at hpos
          have HY := Lib.hid (show Yes w (.returned (.bool true)) wr from ⟨rfl, hs.2.mono (fun i hi s => by omega)⟩)
          by_cases hlt : i < len1
          · obtain ⟨b, off, z, rfl, c0, hz⟩ := P0.out.2.2 i hlt
            replace c0 := (World.cell?_of_block (w := w) (hs.2.block _ (World.block_lt_of_cell? w _ c0) (by have := World.block_lt_of_cell? w _ c0; simp only at this ⊢; omega))).trans c0
            by_cases hz1 : z = -1
            · subst hz1
              have CA := Lib.hid (align_any _ _ _ _ _ _ _ hs.1)
              have S5 := Lib.hid hs
              clear hs
              go_wp2_with fail
              refine CA.out.mono ?_
              rintro e w6 ⟨rfl, hrd6, hk6⟩
              have S6 := Lib.hid (S5.out.step hrd6 hk6)
              clear hrd6 hk6
              go_wp2_with fail
              go_roundw
              case rel => exact ⟨i + 1, (pos + 7) / 8 * 8, by omega, by go_num, by rw [show ((pos : Int) + 7) / 8 * 8 = (((pos + 7) / 8 * 8 : Nat) : Int) by omega], S6.out⟩
              case measure => simp [intOf]; omega
            · have tz : (z == -1) = false := by simpa using hz1
              by_cases hbad : z < 0 ∨ 24 < z ∨ 8 * (len0 : Int) < (pos : Int) + z
              · have CN := Lib.hid (get_no wr _ _ _ _ _ _ hs.1 z (by rw [hdl]; omega))
                have S5 := Lib.hid hs
                clear hs
                by_cases b0 : z < 0
                · have u0 : decide (z < 0) = true := by simpa using b0
                  go_wp2_with fail
                  refine CN.out.mono ?_
                  rintro e w6 ⟨rfl, q, rfl⟩
                  go_wp2_with fail
                  go_roundw
                  case rel => exact ⟨i + 1, pos, by omega, by go_num, rfl, S5.out.drewN q⟩
                  case measure => simp [intOf]; omega
                · have u0 : decide (z < 0) = false := by simpa using b0
                  by_cases b1 : 24 < z
                  · have u1 : decide (24 < z) = true := by simpa using b1
                    go_wp2_with fail
                    refine CN.out.mono ?_
                    rintro e w6 ⟨rfl, q, rfl⟩
                    go_wp2_with fail
                    go_roundw
                    case rel => exact ⟨i + 1, pos, by omega, by go_num, rfl, S5.out.drewN q⟩
                    case measure => simp [intOf]; omega
                  · have u1 : decide (24 < z) = false := by simpa using b1
                    have b2 : 8 * (len0 : Int) < (pos : Int) + z := by omega
                    have u2 : decide (8 * (len0 : Int) < (pos : Int) + z) = true := by simpa using b2
                    go_wp2_with fail
                    refine CN.out.mono ?_
                    rintro e w6 ⟨rfl, q, rfl⟩
                    go_wp2_with fail
                    go_roundw
                    case rel => exact ⟨i + 1, pos, by omega, by go_num, rfl, S5.out.drewN q⟩
                    case measure => simp [intOf]; omega
              · obtain ⟨n, rfl⟩ := Int.eq_ofNat_of_zero_le (show 0 ≤ z by omega)
                have hn24 : n ≤ 24 := by omega
                have hroom : pos + n ≤ 8 * len0 := by omega
                have CG := Lib.hid (get_yes wr _ _ _ _ _ _ hs.1 n hn24 (by rw [hdl]; exact hroom))
                have S5 := Lib.hid hs
                have u2 : decide (8 * len0 < pos + n) = false := by simp only [decide_eq_false_iff_not]; omega
                clear hs hbad tz hz hz1
                go_wp2_with fail
                refine CG.out.mono ?_
                rintro e w6 ⟨rfl, hrd6, hk6⟩
                have S6 := Lib.hid (S5.out.step hrd6 hk6)
                clear hrd6 hk6
                go_wp2_with fail
                obtain ⟨wo, rfl⟩ : ∃ wo : World, wo = wr := ⟨_, rfl⟩
                go_loopw [15, 16] (fun tv k wl => ∃ j : Nat, j ≤ n ∧ k = .int .i64 j ∧ tv = .int .i64 (val high (((rowOf high ds).drop pos).take j) : Nat) ∧ wl = w6) (fun _ k _ => n - (intOf k).toNat)
                case atStart => exact ⟨0, Nat.zero_le _, rfl, by rw [List.take_zero]; cases high <;> rfl, rfl⟩
                case round =>
                  obtain ⟨j, hj, rfl, rfl, rfl⟩ := hrel
                  by_cases hjn : j < n
                  · obtain ⟨q, hq⟩ : ∃ q, q = (pos + j) / 8 := ⟨_, rfl⟩
                    obtain ⟨r, hr⟩ : ∃ r, r = (pos + j) % 8 := ⟨_, rfl⟩
                    have hql : q < len0 := by omega
                    have hr8 : r < 8 := by omega
                    have eq : ((pos : Int) + j) / 8 = (q : Int) := by omega
                    have er : ((pos : Int) + j) % 8 = (r : Int) := by omega
                    obtain ⟨b2, o2, rfl, hcell⟩ := B0.out.2.2 (by omega)
                    obtain ⟨y, hy⟩ : ∃ y, ds[q]? = some y := ⟨_, List.getElem?_eq_getElem (by rw [hdl]; exact hql)⟩
                    have c2 := hcell q y hy
                    replace c2 := (World.cell?_of_block (w := w) (S6.out.2.block _ (World.block_lt_of_cell? w _ c2) (by have := World.block_lt_of_cell? w _ c2; simp only at this ⊢; omega))).trans c2
                    have hy8 : y < 256 := B0.out.2.1 y (List.mem_of_getElem? hy)
                    have HM := Lib.hid (want_more high ds pos j q r y (by omega) hr8 hy)
                    have hj24 : 2 ^ j ≤ 2 ^ 24 := Nat.pow_le_pow_right (by omega) (by omega)
                    have hT : val high (((rowOf high ds).drop pos).take j) < 16777216 := by have := want_lt high ds pos j; omega
                    clear hq hr hcell hy
                    cases high
                    · have hE := u8_bit y r hy8
                      have hbt : y / 2 ^ r % 2 ≤ 1 := by omega
                      have hm : y / 2 ^ r % 2 * 2 ^ j ≤ 16777216 := by have := Nat.mul_le_mul hbt hj24; omega
                      have hw : wrap64 (((y / 2 ^ r % 2 : Nat) : Int) * 2 ^ j) = ((y / 2 ^ r % 2 * 2 ^ j : Nat) : Int) := by
                        rw [two_pow_cast, ← Int.natCast_mul, IntWalk.wrap64_in _ (by omega)]
                      simp only [spot, Bool.false_eq_true, if_false] at HM
                      generalize val false (((rowOf false ds).drop pos).take j) = T at *
                      generalize y / 2 ^ r % 2 * 2 ^ j = m at *
                      generalize y / 2 ^ r % 2 = bt at *
                      clear hj24
                      go_wp2_with fail
                      go_roundw
                      case rel => exact ⟨j + 1, by omega, by go_num, by rw [HM.out, want_sum T m hT hm], trivial⟩
                      case measure => simp [intOf]; omega
                    · have e7 : (7 : Int) - (r : Int) = ((7 - r : Nat) : Int) := by omega
                      obtain ⟨t, ht⟩ : ∃ t, t = 7 - r := ⟨_, rfl⟩
                      have ht8 : t < 8 := by omega
                      rw [← ht] at e7
                      have hE := u8_bit y t hy8
                      have hbt : y / 2 ^ t % 2 ≤ 1 := by omega
                      simp only [spot, if_true] at HM
                      rw [← ht] at HM
                      generalize val true (((rowOf true ds).drop pos).take j) = T at *
                      generalize y / 2 ^ t % 2 = bt at *
                      clear hj24 ht
                      go_wp2_with fail
                      go_roundw
                      case rel => exact ⟨j + 1, by omega, by go_num, by rw [HM.out, want_twice], trivial⟩
                      case measure => simp [intOf]; omega
                  · obtain rfl : j = n := by omega
                    generalize val high (((rowOf high ds).drop pos).take j) = T at *
                    have CA := Lib.hid (at_any _ _ _ _ _ _ _ S6.out.1)
                    have CL := Lib.hid (left_any _ _ _ _ _ _ _ S6.out.1)
                    go_wp2_with fail
                    refine CA.out.mono ?_
                    rintro e w7 ⟨rfl, rfl⟩
                    go_wp2_with fail
                    refine CL.out.mono ?_
                    rintro e w8 ⟨rfl, q, rfl⟩
                    go_wp2_with fail
                    go_roundw
                    case rel => exact ⟨i + 1, pos + j, by omega, by go_num, by simp, S6.out.drewN q⟩
                    case measure => simp [intOf]; omega
          · obtain rfl : i = len1 := by omega
            have CA := Lib.hid (at_any _ _ _ _ _ _ _ hs.1)
            clear hs
            go_wp2_with fail
            refine CA.out.mono ?_
            rintro e w6 ⟨rfl, rfl⟩
            go_wp2_with fail
            go_ret
            exact HY.out
end Go.Proofs.Yteeapkbmlhlhjaa
