/- What was written is read back: the walk of the law. -/
import Derived.Test.YteeapkbmlhlhjaaM
namespace Go.Proofs.Yteeapkbmlhlhjaa
open Go.RowKit

/-- A reader, of blocks that began at B. -/
def Seen (B R D : Nat) (high : Bool) (ds : List Nat) (pos : Nat) (w0 W : World) : Prop :=
  Rd W B R D high ds pos ∧ Keeps (fun k => B ≤ k) w0 W

theorem Seen.below {B R D pos : Nat} {high : Bool} {ds : List Nat} {w0 W W' : World} (h : Seen B R D high ds pos w0 W) (hb : Below W.heap.size W W') : Seen B R D high ds pos w0 W' :=
  ⟨h.1.kept (hb.block _ h.1.lt.1) (hb.block _ h.1.lt.2), h.2.trans (below_keeps hb) (fun _ _ f => f.elim)⟩
theorem Seen.drewN {B R D pos : Nat} {high : Bool} {ds : List Nat} {w0 W : World} (h : Seen B R D high ds pos w0 W) (n : Nat) : Seen B R D high ds pos w0 (W.drewN n) := h.below ⟨rfl, rfl, rfl, Nat.le_refl _, fun _ _ => rfl⟩
theorem Seen.alloc {B R D pos : Nat} {high : Bool} {ds : List Nat} {w0 W : World} (h : Seen B R D high ds pos w0 W) (o : Obj) : Seen B R D high ds pos w0 (W.alloc o) := h.below ((Below.refl _ _).alloc (Nat.le_refl _) _)
theorem Seen.step {B R D pos pos' : Nat} {high : Bool} {ds : List Nat} {w0 W W' : World} (h : Seen B R D high ds pos w0 W) (hr : Rd W' B R D high ds pos') (hk : Keeps (fun k => k = R) W W') : Seen B R D high ds pos' w0 W' :=
  ⟨hr, h.2.trans hk (fun i _ e => by rw [e]; exact h.1.at_)⟩

theorem bytes_of_own {w : World} {B n c : Nat} {aa : Option Addr} {ds : List Nat} (h : w.ownsRow B 5 1 (.slice aa n c) n ((ds.map (fun y : Nat => (y : Int))).map (Value.int .u8))) (hb : ∀ y ∈ ds, y < 256) : Bytes w aa n ds := by
  obtain ⟨hl, h2⟩ := h
  refine ⟨by simpa using hl, hb, fun hp => ?_⟩
  rcases h2 with ⟨_, e2⟩ | ⟨g, cap, cur, e, hB, hh, p1, p2, p3, p4⟩
  · omega
  · cases e
    refine ⟨g, 0, rfl, fun j y hj => ?_⟩
    have hj2 : ((ds.map (fun y : Nat => (y : Int))).map (Value.int .u8))[j]? = (cur.toList.take (n * 1))[j]? := by rw [p4]
    have hjl : j < n := by have := (List.getElem?_eq_some_iff.1 hj).1; simp only [List.length_map] at hl; omega
    rw [List.getElem?_take_of_lt (by omega), List.getElem?_map, List.getElem?_map, hj] at hj2
    have hj3 : cur[j]? = some (.int .u8 (y : Int)) := by simpa using hj2.symm
    simp [World.cell?, hh, hj3]

theorem right_below (w : World) (v n : Int) (F : Bool) :
    Calls Try.prog 12 #[.agg #[.int .i64 v, .int .i64 n, .bool F]] w fun e w' => e = .returned (.bool (fits v n)) ∧ Below w.heap.size w w' := by
  refine (right_any w v n F).mono ?_
  rintro e w' ⟨he, q, rfl⟩
  have k : Below w.heap.size w (w.alloc (.cells #[.int .i64 v, .int .i64 n, .bool F] 27)) := (Below.refl _ _).alloc (Nat.le_refl _) _
  exact ⟨he, k.os, k.tape, k.output, k.size, k.block⟩

set_option maxRecDepth 100000 in
set_option maxHeartbeats 4000000 in
theorem back_long (a0 : Option Addr) (len0 cap0 : Nat) (high : Bool) (w : World) (h : 300 < len0) :
    Calls Try.prog 4 #[.slice a0 len0 cap0, .bool high] w (Yes w) := by
  have A := Lib.hid (anchor_any w)
  have t0 : decide ((300 : Int) < len0) = true := by simp; omega
  go_enter Try.func4, Try.ntmps4
  go_wp2_with fail
  refine A.out.mono ?_
  rintro e w1 ⟨rfl, hk⟩
  go_wp2_with fail
  go_ret
  exact ⟨rfl, hk⟩

set_option maxRecDepth 100000 in
set_option maxHeartbeats 4000000 in
theorem back_good (a0 : Option Addr) (len0 cap0 : Nat) (xs : List Num) (high : Bool) (w : World) (h0 : len0 ≤ 300) (hn0 : Nums w a0 len0 cap0 xs) :
    Calls Try.prog 4 #[.slice a0 len0 cap0, .bool high] w (Yes w) := by
  have A := Lib.hid (anchor_any w)
  have N0 := Lib.hid hn0
  have t0 : decide ((300 : Int) < len0) = false := by simp; omega
  clear hn0
  go_enter Try.func4, Try.ntmps4
  go_wp2_with fail
  refine A.out.mono ?_
  rintro e w1 ⟨rfl, hk⟩
  have C1 := Lib.hid (new_st hk high)
  clear hk
  go_wp2_with fail
  refine C1.out.mono ?_
  rintro e w2 ⟨rfl, h2⟩
  have H2 := Lib.hid h2
  clear h2
  go_wp2_with fail
  go_loopw [24] (fun cnt wr => ∃ i : Nat, i ≤ len0 ∧ cnt = .int .i64 i ∧ St w w1.heap.size high (wrote high xs i) wr) (fun cnt _ => len0 - (intOf cnt).toNat)
  case atStart => exact ⟨0, Nat.zero_le _, rfl, H2.out⟩
  case round =>
    obtain ⟨i, hi, rfl, h⟩ := hrel
    have HL := Lib.hid (show (wrote high xs i).length ≤ 16777216 by have := wrote_length high xs i; omega)
    by_cases hlt : i < len0
    · obtain ⟨x, hx⟩ : ∃ x, xs[i]? = some x := ⟨_, List.getElem?_eq_getElem (by rw [N0.out.2.2.1]; exact hlt)⟩
      obtain ⟨b, off, rfl, c0, c1, c2, cv, cn⟩ := (N0.out.later (fun k hk => h.keeps.block k hk (fun h => h))).2.2.2 i x hx
      have HX := Lib.hid hx
      have HA := Lib.hid (h.alloc #[.int .i64 x.V, .int .i64 x.N, .bool x.F] 27)
      clear h hx
      cases hF : x.F
      · rw [hF] at c2 HA
        have CA := Lib.hid (put_stP HA.out HL.out x.V x.N)
        go_wp2_with fail
        refine CA.out.mono ?_
        rintro e w4 ⟨rfl, h4⟩
        have X := Lib.hid h4.st
        clear h4
        go_wp2_with fail
        go_roundw
        case rel => exact ⟨i + 1, by omega, by go_num, by rw [wrote_succ HX.out, wrote1, hF]; exact X.out⟩
        case measure => simp [intOf]; omega
      · rw [hF] at c2 HA
        have CA := Lib.hid (fill_stP HA.out HL.out x.V cv.1 cv.2)
        go_wp2_with fail
        refine CA.out.mono ?_
        rintro e w4 ⟨rfl, h4⟩
        have X := Lib.hid h4.st
        clear h4
        go_wp2_with fail
        go_roundw
        case rel => exact ⟨i + 1, by omega, by go_num, by rw [wrote_succ HX.out, wrote1, hF]; exact X.out⟩
        case measure => simp [intOf]; omega
    · obtain rfl : i = len0 := by omega
      have CB := Lib.hid (bytes_st h HL.out)
      have H := Lib.hid h
      have hPlt := h.lt
      clear h
      go_wp2_with fail
      refine CB.out.mono ?_
      rintro e w4 ⟨aa, c, rfl, hown, hbel⟩
      obtain ⟨wo, rfl⟩ : ∃ wo : World, wo = wr := ⟨_, rfl⟩
      rw [packed_eq, List.length_map] at hown
      have hdl : (packedN high (wrote high xs i)).length ≤ 16777216 := by rw [packedN_length]; have := HL.out; omega
      have CO := Lib.hid (open_any w4 wo.heap.size hbel.size aa _ c (packedN high (wrote high xs i)) high (bytes_of_own hown (packedN_byte _ _)) hdl)
      have K4 := Lib.hid (show Keeps (fun k => wo.heap.size ≤ k) wo w4 from (below_keeps hbel).mono (fun _ _ f => f.elim))
      rw [packed_eq, List.length_map]
      have HDL := Lib.hid hdl
      clear hown hbel hdl
      obtain ⟨ds, hds⟩ : ∃ ds, ds = packedN high (wrote high xs i) := ⟨_, rfl⟩
      rw [← hds] at CO HDL ⊢
      have HDS := Lib.hid hds
      clear hds
      go_wp2_with fail
      refine CO.out.mono ?_
      rintro e w5 ⟨R, rfl, hrd, hR, hbel⟩
      have S5 := Lib.hid (show Seen wo.heap.size R w4.heap.size high ds 0 wo w5 from ⟨hrd, K4.out.trans (below_keeps hbel) (fun _ _ f => f.elim)⟩)
      clear hrd hbel
      go_wp2_with fail
      go_loopw [49] (fun cnt wr => ∃ j : Nat, j ≤ i ∧ cnt = .int .i64 j ∧ Seen wo.heap.size R w4.heap.size high ds (wrote high xs j).length wo wr) (fun cnt _ => i - (intOf cnt).toNat)
      case atStart => exact ⟨0, Nat.zero_le _, rfl, S5.out⟩
      case round =>
        obtain ⟨j, hj, rfl, h⟩ := hrel
        have hst := H.out.other h.2 (fun k hk => by omega)
        by_cases hlt2 : j < i
        · obtain ⟨x, hx⟩ : ∃ x, xs[j]? = some x := ⟨_, List.getElem?_eq_getElem (by rw [N0.out.2.2.1]; exact hlt2)⟩
          obtain ⟨b, off, rfl, c0, c1, c2, cv, cn⟩ := (N0.out.later (fun k hk => hst.keeps.block k hk (fun h => h))).2.2.2 j x hx
          have HX := Lib.hid hx
          have HA := Lib.hid (h.alloc (.cells #[.int .i64 x.V, .int .i64 x.N, .bool x.F] 27))
          have hRlt := h.1.lt.1
          clear h hx hst
          cases hF : x.F
          · rw [hF] at c2 HA
            have CR := Lib.hid (right_below (wr.alloc (.cells #[.int .i64 x.V, .int .i64 x.N, .bool false] 27)) x.V x.N false)
            go_wp2_with fail
            refine CR.out.mono ?_
            rintro e w6 ⟨rfl, hb6⟩
            have S6 := Lib.hid (HA.out.below hb6)
            have p0 : w6.cell? ⟨wr.heap.size, 0, none⟩ = some (.int .i64 x.V) := (hb6.cell (p := ⟨wr.heap.size, 0, none⟩) (by simp)).trans (by simp)
            have p1 : w6.cell? ⟨wr.heap.size, 1, none⟩ = some (.int .i64 x.N) := (hb6.cell (p := ⟨wr.heap.size, 1, none⟩) (by simp)).trans (by simp)
            clear hb6
            cases hf : fits x.V x.N
            · go_wp2_with fail
              go_roundw
              case rel => exact ⟨j + 1, by omega, by go_num, by rw [wrote_succ HX.out, wrote1, hF, put, hf]; exact S6.out⟩
              case measure => simp [intOf]; omega
            · have hnn : ∃ n : Nat, x.N = (n : Int) ∧ n ≤ 24 := by
                have := hf
                simp only [fits, decide_eq_true_eq] at this
                exact ⟨x.N.toNat, by omega, by omega⟩
              obtain ⟨n, hn, hn24⟩ := hnn
              have er := read_back high xs i j x hlt2 HX.out hF hf
              have eo := read_room high xs i j x hlt2 HX.out hF hf
              rw [← HDS.out] at er eo
              have ev := val_read high x.V x.N hf
              rw [hn] at p1
              rw [hn, Int.toNat_natCast] at er eo ev
              have CG := get_yes w6 wo.heap.size R w4.heap.size (wrote high xs j).length high ds S6.out.1 n hn24 eo
              unfold Got at CG
              rw [er, ev] at CG
              have CG := Lib.hid CG
              have HN := Lib.hid hn
              have HF := Lib.hid hf
              clear er eo ev hn hf
              go_wp2_with fail
              refine CG.out.mono ?_
              rintro e w7 ⟨rfl, hrd7, hk7⟩
              have S7 := Lib.hid (S6.out.step hrd7 hk7)
              have p0' : w7.cell? ⟨wr.heap.size, 0, none⟩ = some (.int .i64 x.V) := (World.cell?_of_block (w := w6) (hk7.block _ (World.block_lt_of_cell? w6 _ p0) (by simp only; omega))).trans p0
              clear hrd7 hk7 p0 p1
              go_wp2_with fail
              go_roundw
              case rel =>
                refine ⟨j + 1, by omega, by go_num, ?_⟩
                have e : (wrote high xs (j + 1)).length = (wrote high xs j).length + n := by
                  rw [wrote_succ HX.out, wrote1, hF, put, HF.out]
                  simp only [Bool.false_eq_true, if_false, if_true, List.length_append, row_length]
                  rw [HN.out, Int.toNat_natCast]
                rw [e]
                exact S7.out
              case measure => simp [intOf]; omega
          · rw [hF] at c2 HA
            have CA := Lib.hid (align_any _ _ _ _ _ _ _ HA.out.1)
            go_wp2_with fail
            refine CA.out.mono ?_
            rintro e w6 ⟨rfl, hrd6, hk6⟩
            have S6 := Lib.hid (HA.out.step hrd6 hk6)
            clear hrd6 hk6
            go_wp2_with fail
            go_roundw
            case rel => exact ⟨j + 1, by omega, by go_num, by rw [wrote_succ HX.out, wrote1, hF, if_pos rfl, fill_length]; exact S6.out⟩
            case measure => simp [intOf]; omega
        · obtain rfl : j = i := by omega
          have CA := Lib.hid (at_any _ _ _ _ _ _ _ h.1)
          have CC := Lib.hid (count_st hst HL.out)
          have CL := Lib.hid (fun q : Nat => left_any _ _ _ _ _ _ _ (h.drewN q).1)
          have CC2 := Lib.hid (fun q : Nat => count_st (hst.drewN q) HL.out)
          have X := Lib.hid hst.keeps
          have HLN := Lib.hid (show ((8 * ds.length - (wrote high xs j).length : Nat) : Int) = (8 - ((wrote high xs j).length : Int) % 8) % 8 by rw [HDS.out, packedN_length]; omega)
          have hll := HL.out
          clear h hst
          generalize (wrote high xs j).length = n at *
          generalize ((8 * ds.length - n : Nat) : Int) = z at *
          go_wp2_with fail
          refine CA.out.mono ?_
          rintro e w6 ⟨rfl, rfl⟩
          go_wp2_with fail
          refine CC.out.mono ?_
          rintro e w7 ⟨rfl, q1, rfl⟩
          go_wp2_with fail
          refine (CL.out q1).mono ?_
          rintro e w8 ⟨rfl, q2, rfl⟩
          go_wp2_with fail
          refine (CC2.out (q1 + q2)).mono ?_
          rintro e w9 ⟨rfl, q3, rfl⟩
          have hz := HLN.out
          go_wp2_with fail
          go_ret
          exact ⟨rfl, X.out.drewN _⟩
end Go.Proofs.Yteeapkbmlhlhjaa
