/- Whatever is written is the document's bytes: the walk of the law. -/
import Derived.Test.YteeapkbmlhlhjaaN
namespace Go.Proofs.Yteeapkbmlhlhjaa
open Go.RowKit

/-- The law's bytes when i bits are laid. -/
def laid (high : Bool) (L : List Bool) (Q i : Nat) : List Value := (List.range Q).map fun j => Value.int .u8 ((byteAt high (L.take i) j : Nat) : Int)

theorem laid_zero (high : Bool) (L : List Bool) (Q : Nat) : madeCells #[.int .u8 0] Q = (laid high L Q 0).toArray := by
  apply Array.ext
  · simp [laid, size_madeCells]
  · intro j h1 h2
    have e : byteAt high ([] : List Bool) j = 0 := by cases high <;> simp [byteAt, byteOf, val, lowv]
    simp [laid, madeCells, e, Nat.mod_one]
theorem laid_done (high : Bool) (L : List Bool) : laid high L ((L.length + 7) / 8) L.length = ((packed high L).map (Value.int .u8)) := by
  simp [laid, packed, fulls]
theorem laid_get (high : Bool) (L : List Bool) (Q i q : Nat) (h : q < Q) : (laid high L Q i)[q]? = some (.int .u8 ((byteAt high (L.take i) q : Nat) : Int)) := by
  simp [laid, h]

/-- A bit more in its byte. -/
theorem byteOf_snoc (high : Bool) (ch : List Bool) (b : Bool) (r : Nat) (hr : r = ch.length) (h8 : r < 8) :
    byteOf high ch ||| b.toNat * 2 ^ (if high then 7 - r else r) = byteOf high (ch ++ [b]) := by
  subst hr
  have hb : b.toNat ≤ 1 := by cases b <;> simp
  cases high
  · simp only [byteOf, Bool.false_eq_true, if_false]
    have h1 : val false ch < 2 ^ ch.length := val_lt false ch
    rw [Nat.or_comm, nat_join ch.length _ _ (Nat.mul_mod_left _ _) h1, low_append]
    simp only [val, Bool.false_eq_true, if_false, lowv]
    rw [Nat.mul_comm, Nat.add_comm]
    simp
  · simp only [byteOf, if_true, List.length_append, List.length_singleton]
    have e1 : 8 - ch.length = (7 - ch.length) + 1 := by omega
    have e2 : 8 - (ch.length + 1) = 7 - ch.length := by omega
    have h1 : b.toNat * 2 ^ (7 - ch.length) < 2 ^ (8 - ch.length) := by
      rw [e1, Nat.pow_succ]
      have : b.toNat * 2 ^ (7 - ch.length) ≤ 1 * 2 ^ (7 - ch.length) := Nat.mul_le_mul_right _ hb
      have := Nat.two_pow_pos (7 - ch.length)
      omega
    rw [nat_join (8 - ch.length) _ _ (Nat.mul_mod_left _ _) h1, high_append, e2, e1, Nat.pow_succ]
    have e3 : val true [b] = b.toNat := by cases b <;> rfl
    rw [e3]
    simp only [List.length_singleton, Nat.pow_one, Nat.add_mul]
    congr 1
    rw [Nat.mul_assoc, Nat.mul_comm 2]
theorem byteAt_snoc (high : Bool) (L : List Bool) (i q r : Nat) (b : Bool) (hb : L[i]? = some b) (hi : i = 8 * q + r) (hr : r < 8) :
    byteAt high (L.take i) q ||| b.toNat * 2 ^ (if high then 7 - r else r) = byteAt high (L.take (i + 1)) q := by
  have hil : i < L.length := (List.getElem?_eq_some_iff.1 hb).1
  have e1 : ((L.take i).drop (8 * q)).length = r := by simp; omega
  have e2 : L.take (i + 1) = L.take i ++ [b] := by rw [List.take_add_one, hb]; rfl
  unfold byteAt
  have e3 : ∀ l : List Bool, l.length ≤ 8 → l.take 8 = l := fun l h => List.take_of_length_le h
  rw [e2, List.drop_append_of_le_length (by simp; omega), e3 ((L.take i).drop (8 * q)) (by omega), e3 ((L.take i).drop (8 * q) ++ [b]) (by rw [List.length_append, e1, List.length_singleton]; omega)]
  exact byteOf_snoc high _ b r e1.symm hr
theorem byteAt_other (high : Bool) (L : List Bool) (i q r j : Nat) (hi : i = 8 * q + r) (hr : r < 8) (hj : j ≠ q) : byteAt high (L.take (i + 1)) j = byteAt high (L.take i) j := by
  unfold byteAt
  congr 1
  rw [List.drop_take, List.drop_take, List.take_take, List.take_take]
  by_cases h : j < q
  · rw [show min 8 (i + 1 - 8 * j) = 8 by omega, show min 8 (i - 8 * j) = 8 by omega]
  · rw [show min 8 (i + 1 - 8 * j) = 0 by omega, show min 8 (i - 8 * j) = 0 by omega]
theorem laid_step (high : Bool) (L : List Bool) (Q i q r : Nat) (b : Bool) (hb : L[i]? = some b) (hi : i = 8 * q + r) (hr : r < 8) :
    (laid high L Q i).toArray.setIfInBounds q (.int .u8 ((byteAt high (L.take i) q ||| b.toNat * 2 ^ (if high then 7 - r else r) : Nat) : Int)) = (laid high L Q (i + 1)).toArray := by
  rw [byteAt_snoc high L i q r b hb hi hr, List.setIfInBounds_toArray]
  congr 1
  apply List.ext_getElem?
  intro j
  by_cases e : q = j
  · subst e
    by_cases h : q < Q
    · rw [List.getElem?_set_self (by simp [laid, h]), laid_get _ _ _ _ _ h]
    · rw [List.getElem?_eq_none (by simp [laid]; omega), List.getElem?_eq_none (by simp [laid]; omega)]
  · rw [List.getElem?_set_ne e]
    by_cases h : j < Q
    · rw [laid_get _ _ _ _ _ h, laid_get _ _ _ _ _ h, byteAt_other high L i q r j hi hr (fun h => e h.symm)]
    · rw [List.getElem?_eq_none (by simp [laid]; omega), List.getElem?_eq_none (by simp [laid]; omega)]

theorem or_byte (x y : Nat) (hx : x < 256) (hy : y < 256) : bits .or .u8 (x : Int) (y : Int) = ((x ||| y : Nat) : Int) := u8_or_nat x y hx hy

/-- The world when i bits are laid in block g. -/
def Laid (w0 : World) (g : Nat) (high : Bool) (L : List Bool) (Q i : Nat) (W : World) : Prop :=
  W.heap[g]? = some (.cells (laid high L Q i).toArray 5 (0, 0)) ∧ Keeps (fun k => k = g) w0 W

theorem Laid.step {w0 W : World} {g Q i q r : Nat} {high : Bool} {L : List Bool} {b : Bool} (h : Laid w0 g high L Q i W) (hb : L[i]? = some b) (hi : i = 8 * q + r) (hr : r < 8) (z : Int) (hz : z = ((byteAt high (L.take i) q ||| b.toNat * 2 ^ (if high then 7 - r else r) : Nat) : Int)) :
    Laid w0 g high L Q (i + 1) ((W.setCell ⟨g, q, none⟩ (.int .u8 z)).drew) := by
  subst hz
  refine ⟨?_, (h.2.setCell (p := ⟨g, q, none⟩) (fun _ => rfl) _).drew⟩
  have k := block_set h.1 (i := q) (.int .u8 ((byteAt high (L.take i) q ||| b.toNat * 2 ^ (if high then 7 - r else r) : Nat) : Int))
  rw [laid_step high L Q i q r b hb hi hr] at k
  exact k

/-- A bit of the law's list. -/
theorem bit_cell {w : World} {B c i : Nat} {aa : Option Addr} {L : List Bool} {b : Bool} (h : w.ownsRow B 3 1 (.slice aa L.length c) L.length (L.map bitv)) (hb : L[i]? = some b) : ∃ gl, aa = some ⟨gl, 0, none⟩ ∧ L.length ≤ c ∧ gl < w.heap.size ∧ w.cell? ⟨gl, i, none⟩ = some (.int .i64 ((b.toNat : Nat) : Int)) := by
  have hil : i < L.length := (List.getElem?_eq_some_iff.1 hb).1
  rcases h.2 with ⟨_, e2⟩ | ⟨g, cap, cur, e, hB, hh, p1, p2, p3, p4⟩
  · omega
  · cases e
    refine ⟨g, rfl, p1, lt_of_block hh, ?_⟩
    have k := h.cells (g := g) rfl i (bitv b) (by rw [List.getElem?_map, hb]; rfl)
    have e3 : ((⟨g, 0, none⟩ : Addr).add i) = ⟨g, i, none⟩ := by
      unfold Addr.add
      split
      · rename_i h; subst h; rfl
      · simp
    rw [e3] at k
    exact k

theorem count_below {w W : World} {P : Nat} {high : Bool} {L : List Bool} (h : St w P high L W) (hl : L.length ≤ 16777216) : Calls Try.prog 15 #[.pointer (some ⟨P, 0, none⟩)] W fun e W' => e = .returned (.int .i64 L.length) ∧ Below W.heap.size W W' := by
  refine (count_st h hl).mono ?_
  rintro e W' ⟨he, n, rfl⟩
  exact ⟨he, rfl, rfl, rfl, Nat.le_refl _, fun _ _ => rfl⟩

theorem own_of_block {w : World} {B g n : Nat} {xs : List Value} (hB : B ≤ g) (hn : xs.length = n) (hm : n ≤ maxLen) (h : w.heap[g]? = some (.cells xs.toArray 5 (0, 0))) : w.ownsRow B 5 1 (.slice (some ⟨g, 0, none⟩) n n) n xs := by
  refine ⟨by omega, Or.inr ⟨g, n, xs.toArray, rfl, hB, h, Nat.le_refl _, hm, by simp; omega, ?_⟩⟩
  rw [List.take_of_length_le (by simp; omega)]

set_option maxRecDepth 100000 in
set_option maxHeartbeats 4000000 in
theorem writes_long (a0 : Option Addr) (len0 cap0 : Nat) (high : Bool) (w : World) (h : 300 < len0) :
    Calls Try.prog 3 #[.slice a0 len0 cap0, .bool high] w (Yes w) := by
  have A := Lib.hid (anchor_any w)
  have t0 : decide ((300 : Int) < len0) = true := by simp; omega
  go_enter Try.func3, Try.ntmps3
  go_wp2_with fail
  refine A.out.mono ?_
  rintro e w1 ⟨rfl, hk⟩
  go_wp2_with fail
  go_ret
  exact ⟨rfl, hk⟩

set_option maxRecDepth 100000 in
set_option maxHeartbeats 4000000 in
theorem writes_good (a0 : Option Addr) (len0 cap0 : Nat) (xs : List Num) (high : Bool) (w : World) (h0 : len0 ≤ 300) (hn0 : Nums w a0 len0 cap0 xs) :
    Calls Try.prog 3 #[.slice a0 len0 cap0, .bool high] w (Yes w) := by
  have A := Lib.hid (anchor_any w)
  have N0 := Lib.hid hn0
  have t0 : decide ((300 : Int) < len0) = false := by simp; omega
  clear hn0
  go_enter Try.func3, Try.ntmps3
  go_wp2_with fail
  refine A.out.mono ?_
  rintro e w1 ⟨rfl, hk⟩
  have C1 := Lib.hid (new_st hk high)
  clear hk
  go_wp2_with fail
  refine C1.out.mono ?_
  rintro e w2 ⟨rfl, h2⟩
  have H2 := Lib.hid h2
  clear h2
  go_wp2_with fail
  go_loopw [25] (fun cnt wr => ∃ i : Nat, i ≤ len0 ∧ cnt = .int .i64 i ∧ St w w1.heap.size high (wrote high xs i) wr) (fun cnt _ => len0 - (intOf cnt).toNat)
  case atStart => exact ⟨0, Nat.zero_le _, rfl, H2.out⟩
  case round =>
    obtain ⟨i, hi, rfl, h⟩ := hrel
    have HL := Lib.hid (show (wrote high xs i).length ≤ 16777216 by have := wrote_length high xs i; omega)
    by_cases hlt : i < len0
    · obtain ⟨x, hx⟩ : ∃ x, xs[i]? = some x := ⟨_, List.getElem?_eq_getElem (by rw [N0.out.2.2.1]; exact hlt)⟩
      obtain ⟨b, off, rfl, c0, c1, c2, cv, cn⟩ := (N0.out.later (fun k hk => h.keeps.block k hk (fun h => h))).2.2.2 i x hx
      have HX := Lib.hid (wrote_succ (high := high) hx)
      have HA := Lib.hid (h.alloc #[.int .i64 x.V, .int .i64 x.N, .bool x.F] 27)
      clear h hx
      cases hF : x.F
      · rw [hF] at c2 HA
        have CA := Lib.hid (put_stP HA.out.drew HL.out x.V x.N)
        have CR := Lib.hid (fun W => right_below W x.V x.N false)
        go_wp2_with fail
        go_region_law (go_simp; first
          | (go_at_call 11; refine CA.out.mono ?_; rintro e w4 ⟨rfl, h4⟩; obtain ⟨q0, q1, q2⟩ := reader_cells h4.pin)
          | (go_at_call 12; refine (CR.out _).mono ?_; rintro e w5 ⟨rfl, hb5⟩))
        all_goals
          have X := Lib.hid (h4.below hb5).st
          clear h4 hb5 q0 q1 q2
          go_wp2_with fail
          go_roundw
          case rel => exact ⟨i + 1, by omega, by go_num, by rw [HX.out, wrote1, hF]; exact X.out⟩
          case measure => simp [intOf]; omega
      · rw [hF] at c2 HA
        have CA := Lib.hid (fill_stP HA.out HL.out x.V cv.1 cv.2)
        go_wp2_with fail
        refine CA.out.mono ?_
        rintro e w4 ⟨rfl, h4⟩
        have X := Lib.hid h4.st
        clear h4
        go_wp2_with fail
        go_roundw
        case rel => exact ⟨i + 1, by omega, by go_num, by rw [HX.out, wrote1, hF]; exact X.out⟩
        case measure => simp [intOf]; omega
    · obtain rfl : i = len0 := by omega
      have CB := Lib.hid (bitsOf_any a0 i cap0 xs high wr h0 (N0.out.later (fun k hk => h.keeps.block k hk (fun h => h))))
      have HL8 := Lib.hid (wrote_length high xs i)
      have H := Lib.hid h
      clear h
      generalize wrote high xs i = L at *
      go_wp2_with fail
      refine CB.out.mono ?_
      rintro e w4 ⟨aa, c, rfl, hown, hbel⟩
      have HO4 := Lib.hid hown
      have K4 := Lib.hid (show Keeps (fun k => wr.heap.size ≤ k) wr w4 from (below_keeps hbel).mono (fun _ _ f => f.elim))
      have hLs : L.length ≤ 8192 := by have := HL8.out; omega
      clear hown hbel
      go_wp2_with (at_make; go_must (refine wpList_make_cap rfl (.tmp 51) (.tmp 51) rfl ((L.length + 7) / 8) ((L.length + 7) / 8) ?l1 ?l2 (Nat.le_refl _) (by omega) ?l3))
      case l1 =>
        show Value.int .i64 (((L.length : Int) + 7) / 8) = _
        congr 1
      case l2 =>
        show Value.int .i64 (((L.length : Int) + 7) / 8) = _
        congr 1
      case l3 =>
        intro w5 hown5 hb5 hbel5
        rw [laid_zero high L] at hb5
        have HD5 := Lib.hid (show Laid w5 w4.heap.size high L ((L.length + 7) / 8) 0 w5 from ⟨hb5, Keeps.refl _ _⟩)
        have K5 := Lib.hid (K4.out.trans (below_keeps hbel5) (fun _ _ f => f.elim))
        have B5 := Lib.hid hbel5
        have hw45 : wr.heap.size ≤ w4.heap.size := K4.out.size
        clear hown5 hb5 hbel5
        obtain ⟨wo, rfl⟩ : ∃ wo : World, wo = wr := ⟨_, rfl⟩
        go_wp2_with fail
        go_loopw [55] (fun cnt wl => ∃ j : Nat, j ≤ L.length ∧ cnt = .int .i64 j ∧ Laid w5 w4.heap.size high L ((L.length + 7) / 8) j wl) (fun cnt _ => L.length - (intOf cnt).toNat)
        case atStart => exact ⟨0, Nat.zero_le _, rfl, HD5.out⟩
        case round =>
          obtain ⟨j, hj, rfl, hd⟩ := hrel
          have HD := Lib.hid hd
          clear hd
          by_cases hjn : j < L.length
          · obtain ⟨bb, hbb⟩ : ∃ bb, L[j]? = some bb := ⟨_, List.getElem?_eq_getElem hjn⟩
            obtain ⟨gl, rfl, hc, hgl, hcell⟩ := bit_cell HO4.out hbb
            have d1 : wr.cell? ⟨gl, j, none⟩ = some (.int .i64 ((bb.toNat : Nat) : Int)) := by
              rw [← hcell]
              exact World.cell?_of_block (w := w4) ((HD.out.2.block gl (Nat.lt_of_lt_of_le hgl B5.out.size) (by omega)).trans (B5.out.block gl hgl))
            obtain ⟨q, hq⟩ : ∃ q, q = j / 8 := ⟨_, rfl⟩
            obtain ⟨r, hr⟩ : ∃ r, r = j % 8 := ⟨_, rfl⟩
            have eq : (j : Int) / 8 = (q : Int) := by omega
            have er : (j : Int) % 8 = (r : Int) := by omega
            have hr8 : r < 8 := by omega
            have hqQ : q < (L.length + 7) / 8 := by omega
            have d2 : wr.cell? ⟨w4.heap.size, q, none⟩ = some (.int .u8 ((byteAt high (L.take j) q : Nat) : Int)) := by
              simp only [World.cell?, HD.out.1]
              simpa using laid_get high L _ j q hqQ
            have f2 := block_free HD.out.1 q
            have hold := byteAt_lt high (L.take j) q
            have hb1 : bb.toNat ≤ 1 := by cases bb <;> simp
            have X := Lib.hid (fun z hz => HD.out.step hbb (by omega : j = 8 * q + r) hr8 z hz)
            have hq16 : q ≤ 8192 := by omega
            clear hcell hbb hq hr
            cases high
            · simp only [Bool.false_eq_true, if_false] at X
              have h2 : 2 ^ r ≤ 2 ^ 7 := Nat.pow_le_pow_right (by omega) (by omega)
              have h3 : bb.toNat * 2 ^ r ≤ 1 * 2 ^ 7 := Nat.mul_le_mul hb1 h2
              have HZ := Lib.hid (or_byte _ (bb.toNat * 2 ^ r) hold (by omega))
              have hw1 : IntKind.u8.wrap (IntKind.i64.wrap (((bb.toNat : Nat) : Int) * 2 ^ r)) = ((bb.toNat * 2 ^ r : Nat) : Int) := by
                rw [two_pow_cast, ← Int.natCast_mul, wrap_i64 _ (by omega) (by omega), wrap_u8_nat, Nat.mod_eq_of_lt (by omega)]
              have hw2 : IntKind.u8.wrap (wrap64 (((bb.toNat : Nat) : Int) * 2 ^ r)) = ((bb.toNat * 2 ^ r : Nat) : Int) := by rw [← hw1, IntWalk.i64_left]
              generalize bb.toNat * 2 ^ r = m at *
              generalize bb.toNat = bt at *
              generalize byteAt false (L.take j) q = old at *
              clear h2 h3
              go_wp2_with fail
              go_region
              go_wp2_with fail
              go_roundw
              case rel => exact ⟨j + 1, by omega, by go_num, X.out _ HZ.out⟩
              case measure => simp [intOf]; omega
            · obtain ⟨t, ht⟩ : ∃ t, t = 7 - r := ⟨_, rfl⟩
              have e7 : (7 : Int) - (r : Int) = (t : Int) := by omega
              have ht8 : t < 8 := by omega
              simp only [if_true] at X
              rw [← ht] at X
              have h2 : 2 ^ t ≤ 2 ^ 7 := Nat.pow_le_pow_right (by omega) (by omega)
              have h3 : bb.toNat * 2 ^ t ≤ 1 * 2 ^ 7 := Nat.mul_le_mul hb1 h2
              have HZ := Lib.hid (or_byte _ (bb.toNat * 2 ^ t) hold (by omega))
              have hw1 : IntKind.u8.wrap (IntKind.i64.wrap (((bb.toNat : Nat) : Int) * 2 ^ t)) = ((bb.toNat * 2 ^ t : Nat) : Int) := by
                rw [two_pow_cast, ← Int.natCast_mul, wrap_i64 _ (by omega) (by omega), wrap_u8_nat, Nat.mod_eq_of_lt (by omega)]
              have hw2 : IntKind.u8.wrap (wrap64 (((bb.toNat : Nat) : Int) * 2 ^ t)) = ((bb.toNat * 2 ^ t : Nat) : Int) := by rw [← hw1, IntWalk.i64_left]
              generalize bb.toNat * 2 ^ t = m at *
              generalize bb.toNat = bt at *
              generalize byteAt true (L.take j) q = old at *
              clear h2 h3 ht
              go_wp2_with fail
              go_region
              go_wp2_with fail
              go_roundw
              case rel => exact ⟨j + 1, by omega, by go_num, X.out _ HZ.out⟩
              case measure => simp [intOf]; omega
          · obtain rfl : j = L.length := by omega
            have hd1 := HD.out.1
            rw [laid_done] at hd1
            have hst := H.out.other (K5.out.trans (S1 := fun k => k = w4.heap.size) HD.out.2 (fun i _ e => by omega)) (fun k hk => by omega)
            have CY := Lib.hid (bytes_st hst HL.out)
            have hpl : (packed high L).length = (L.length + 7) / 8 := by unfold packed; rw [fulls_length]
            have HWT := Lib.hid (own_of_block (B := 0) (Nat.zero_le _) (by rw [List.length_map, hpl]) (by unfold maxLen; omega) hd1)
            have HST := Lib.hid hst
            have HPL := Lib.hid hpl
            clear hd1 hst hpl
            go_wp2_with fail
            refine CY.out.mono ?_
            rintro e w6 ⟨ab, cb, rfl, hown6, hbel6⟩
            rw [HPL.out] at hown6 ⊢
            have S6 := HST.out.below hbel6
            have KC := Lib.hid (count_below (S6.drewN 1) HL.out)
            have HB6 := Lib.hid hown6
            have HW6 := Lib.hid (own_kept HWT.out (fun k e => hbel6.block k (HWT.out.lt k e).2))
            have CY2 := Lib.hid (fun (W : World) (hb : Below w6.heap.size w6 W) => bytes_st (S6.below hb) HL.out)
            have FIN := Lib.hid (fun (W : World) (hb : Below w6.heap.size w6 W) => (S6.below hb).keeps)
            have BB := Lib.hid (fun (W W' : World) (hb : Below w6.heap.size w6 W) (hc : Below W.heap.size W W') => show Below w6.heap.size w6 W' from hb.trans ⟨hc.os, hc.tape, hc.output, hc.size, fun k hk => hc.block k (Nat.lt_of_lt_of_le hk hb.size)⟩)
            have B1 := Lib.hid (fun (W : World) (hc : Below (w6.drewN 1).heap.size (w6.drewN 1) W) => show Below w6.heap.size w6 W from ⟨hc.os, hc.tape, hc.output, hc.size, hc.block⟩)
            have CVB := Lib.hid (fun (W : World) (hb : Below w6.heap.size w6 W) => conv_told (own_kept HB6.out (fun k e => hb.block k (HB6.out.lt k e).2)))
            have CVW := Lib.hid (fun (W : World) (hb : Below w6.heap.size w6 W) => conv_told (own_kept HW6.out (fun k e => hb.block k (HW6.out.lt k e).2)))
            clear hown6 hbel6 S6
            generalize packed high L = pk at *
            generalize (L.length + 7) / 8 = Q at *
            go_wp2_with fail
            go_region_law (go_simp; first
              | (go_at_call 15; refine KC.out.mono ?_; rintro e w7 ⟨rfl, hb7⟩; have b7 := B1.out w7 hb7; have v1 := CVB.out w7 b7; have v2 := CVW.out w7 b7)
              | (go_at_call 14; refine (CY2.out _ b7).mono ?_; rintro e w8 ⟨ac, cc, rfl, hown8, hbel8⟩; have b8 := BB.out w7 w8 b7 hbel8; have v3 := CVB.out w8 b8; have v4 := conv_told hown8))
            all_goals
              have X := Lib.hid (FIN.out w8 b8)
              clear hb7 b7 v1 v2 hown8 hbel8 b8 v3 v4
              go_wp2_with fail
              go_ret
              exact ⟨rfl, X.out⟩
end Go.Proofs.Yteeapkbmlhlhjaa
