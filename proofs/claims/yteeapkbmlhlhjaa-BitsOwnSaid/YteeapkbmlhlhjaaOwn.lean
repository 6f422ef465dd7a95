/- What a writer tells is memory of its own: the walk of the law. -/
import Derived.Test.YteeapkbmlhlhjaaJ
namespace Go.Proofs.Yteeapkbmlhlhjaa
open Go.RowKit

set_option maxRecDepth 100000 in
set_option maxHeartbeats 4000000 in
theorem own_long (a0 : Option Addr) (len0 cap0 : Nat) (a1 : Option Addr) (len1 cap1 : Nat) (high : Bool) (w : World) (h : 200 < len0 ∨ 200 < len1) :
    Calls Try.prog 7 #[.slice a0 len0 cap0, .slice a1 len1 cap1, .bool high] w (Yes w) := by
  have A := Lib.hid (anchor_any w)
  by_cases h0 : 200 < len0
  · have t0 : decide ((200 : Int) < len0) = true := by simp; omega
    go_enter Try.func7, Try.ntmps7
    go_wp2_with fail
    refine A.out.mono ?_
    rintro e w1 ⟨rfl, hk⟩
    go_wp2_with fail
    go_ret
    exact ⟨rfl, hk⟩
  · have t0 : decide ((200 : Int) < len0) = false := by simp; omega
    have t1 : decide ((200 : Int) < len1) = true := by simp; omega
    go_enter Try.func7, Try.ntmps7
    go_wp2_with fail
    refine A.out.mono ?_
    rintro e w1 ⟨rfl, hk⟩
    go_wp2_with fail
    go_ret
    exact ⟨rfl, hk⟩

set_option maxRecDepth 100000 in
set_option maxHeartbeats 4000000 in
theorem own_good (a0 : Option Addr) (len0 cap0 : Nat) (xs0 : List Num) (a1 : Option Addr) (len1 cap1 : Nat) (xs1 : List Num) (high : Bool) (w : World) (h0 : len0 ≤ 200) (h1 : len1 ≤ 200) (hn0 : Nums w a0 len0 cap0 xs0) (hn1 : Nums w a1 len1 cap1 xs1) :
    Calls Try.prog 7 #[.slice a0 len0 cap0, .slice a1 len1 cap1, .bool high] w (Yes w) := by
  have A := Lib.hid (anchor_any w)
  have N0 := Lib.hid hn0
  have N1 := Lib.hid hn1
  have t0 : decide ((200 : Int) < len0) = false := by simp; omega
  have t1 : decide ((200 : Int) < len1) = false := by simp; omega
  clear hn0 hn1
  go_enter Try.func7, Try.ntmps7
  go_wp2_with fail
  refine A.out.mono ?_
  rintro e w1 ⟨rfl, hk⟩
  have C1 := Lib.hid (new_st hk high)
  clear hk
  go_wp2_with fail
  refine C1.out.mono ?_
  rintro e w2 ⟨rfl, h2⟩
  have C2 := Lib.hid (new_two h2 high)
  clear h2
  go_wp2_with fail
  refine C2.out.mono ?_
  rintro e w3 ⟨rfl, h3⟩
  have H3 := Lib.hid h3
  clear h3
  go_wp2_with fail
  go_loopw [37] (fun cnt wr => ∃ i : Nat, i ≤ len0 ∧ cnt = .int .i64 i ∧ Two w w1.heap.size high (puts high xs0 [] i) w2.heap.size high (puts high xs0 [] i) wr) (fun cnt _ => len0 - (intOf cnt).toNat)
  case atStart => exact ⟨0, Nat.zero_le _, rfl, H3.out⟩
  case round =>
    obtain ⟨i, hi, rfl, h⟩ := hrel
    by_cases hlt : i < len0
    · obtain ⟨x, hx⟩ : ∃ x, xs0[i]? = some x := ⟨_, List.getElem?_eq_getElem (by rw [N0.out.2.2.1]; exact hlt)⟩
      obtain ⟨b, off, rfl, c0, c1, c2, cv, cn⟩ := (N0.out.later (fun k hk => h.keeps.block k hk (fun h => h))).2.2.2 i x hx
      have HX := Lib.hid hx
      have HL := Lib.hid (puts_length high xs0 [] i)
      have CA := Lib.hid (put_twoP (h.alloc #[.int .i64 x.V, .int .i64 x.N, .bool x.F] 27) (by have := puts_length high xs0 [] i; simp only [List.length_nil] at this; omega) x.V x.N)
      clear h hx
      go_wp2_with fail
      refine CA.out.mono ?_
      rintro e w4 ⟨rfl, h4⟩
      have hp := h4.pin
      have p0 : w4.cell? ⟨wr.heap.size, 0, none⟩ = some (.int .i64 x.V) := by simp [World.cell?, hp]
      have p1 : w4.cell? ⟨wr.heap.size, 1, none⟩ = some (.int .i64 x.N) := by simp [World.cell?, hp]
      have CB := Lib.hid (put_twoP h4.swap (by have := HL.out; simp only [List.length_nil] at this; omega) x.V x.N)
      clear h4 hp
      go_wp2_with fail
      refine CB.out.mono ?_
      rintro e w5 ⟨rfl, h5⟩
      have X := Lib.hid h5.swap.two
      clear h5
      go_wp2_with fail
      go_roundw
      case rel => exact ⟨i + 1, by omega, by go_num, by rw [puts_succ HX.out]; exact X.out⟩
      case measure => simp [intOf]; omega
    · obtain rfl : i = len0 := by omega
      have HL := Lib.hid (puts_length high xs0 [] i)
      generalize puts high xs0 [] i = L at *
      have C3 := Lib.hid (bytes_st h.st (by have := HL.out; simp only [List.length_nil] at this; omega))
      have H := Lib.hid h
      clear h
      go_wp2_with fail
      refine C3.out.mono ?_
      rintro e w4 ⟨aa, c, rfl, hown, hbel⟩
      have H4 := Lib.hid (show Keeps (fun k => wr.heap.size ≤ k) wr w4 from (below_keeps hbel).mono (fun _ _ f => f.elim))
      have HO := Lib.hid hown
      have HN := Lib.hid (show (packed high L).length ≤ 16777216 by unfold packed; rw [fulls_length]; have := HL.out; simp only [List.length_nil] at this; omega)
      clear hown hbel
      generalize packed high L = tl at *
      obtain ⟨wo, rfl⟩ : ∃ wo : World, wo = wr := ⟨_, rfl⟩
      go_wp2_with fail
      go_loopw [58] (fun cnt wl => ∃ j : Nat, j ≤ tl.length ∧ cnt = .int .i64 j ∧ Keeps (fun k => wo.heap.size ≤ k) wo wl ∧ (0 < tl.length → ∃ g, aa = some ⟨g, 0, none⟩ ∧ tl.length ≤ c ∧ wo.heap.size ≤ g ∧ Bag wl g tl.length)) (fun cnt _ => tl.length - (intOf cnt).toNat)
      case atStart =>
        refine ⟨0, Nat.zero_le _, rfl, H4.out, fun hp => ?_⟩
        obtain ⟨g, e1, e2, e3, e4⟩ := bag_of_told HO.out hp
        exact ⟨g, e1, e3, e2, e4⟩
      case round =>
        obtain ⟨j, hj, rfl, hk, hg⟩ := hrel
        by_cases hjl : j < tl.length
        · obtain ⟨g, rfl, hc, hge, hbag⟩ := hg (by omega)
          obtain ⟨z, hz, hfz⟩ := hbag.cell hjl
          have X := Lib.hid (fun u : Int => show Keeps (fun k => wo.heap.size ≤ k) wo (wr.setCell ⟨g, j, none⟩ (.int .u8 u)) ∧ Bag (wr.setCell ⟨g, j, none⟩ (.int .u8 u)) g tl.length from
            ⟨hk.setCell (p := ⟨g, j, none⟩) (fun _ => hge) _, hbag.set j u⟩)
          have hn := HN.out
          generalize tl.length = n at *
          clear hk hg hbag
          go_wp2_with fail
          go_roundw
          case rel => exact ⟨j + 1, by omega, by go_num, (X.out _).1, fun _ => ⟨g, rfl, hc, hge, (X.out _).2⟩⟩
          case measure => simp [intOf]; omega
        · have h5 := H.out.other hk (fun k hk => by omega)
          have H5 := Lib.hid h5
          have hn := HN.out
          clear h5 hk hg
          go_wp2_with fail
          go_loopw [70] (fun cnt wl => ∃ i : Nat, i ≤ len1 ∧ cnt = .int .i64 i ∧ Two w w1.heap.size high (puts high xs1 L i) w2.heap.size high (puts high xs1 L i) wl) (fun cnt _ => len1 - (intOf cnt).toNat)
          case atStart => exact ⟨0, Nat.zero_le _, rfl, H5.out⟩
          case round =>
            obtain ⟨i2, hi2, rfl, h⟩ := hrel
            have HL1 := Lib.hid (puts_length high xs1 L i2)
            by_cases hlt2 : i2 < len1
            · obtain ⟨x, hx⟩ : ∃ x, xs1[i2]? = some x := ⟨_, List.getElem?_eq_getElem (by rw [N1.out.2.2.1]; exact hlt2)⟩
              obtain ⟨b, off, rfl, c0, c1, c2, cv, cn⟩ := (N1.out.later (fun k hk => h.keeps.block k hk (fun h => h))).2.2.2 i2 x hx
              have HX := Lib.hid hx
              have CA := Lib.hid (put_twoP (h.alloc #[.int .i64 x.V, .int .i64 x.N, .bool x.F] 27) (by have := HL.out; have := HL1.out; simp only [List.length_nil] at *; omega) x.V x.N)
              clear h hx
              go_wp2_with fail
              refine CA.out.mono ?_
              rintro e w4 ⟨rfl, h4⟩
              have hp := h4.pin
              have p0 : w4.cell? ⟨wr.heap.size, 0, none⟩ = some (.int .i64 x.V) := by simp [World.cell?, hp]
              have p1 : w4.cell? ⟨wr.heap.size, 1, none⟩ = some (.int .i64 x.N) := by simp [World.cell?, hp]
              have CB := Lib.hid (put_twoP h4.swap (by have := HL.out; have := HL1.out; simp only [List.length_nil] at *; omega) x.V x.N)
              clear h4 hp
              go_wp2_with fail
              refine CB.out.mono ?_
              rintro e w5 ⟨rfl, h5⟩
              have X := Lib.hid h5.swap.two
              clear h5
              go_wp2_with fail
              go_roundw
              case rel => exact ⟨i2 + 1, by omega, by go_num, by rw [puts_succ HX.out]; exact X.out⟩
              case measure => simp [intOf]; omega
            · obtain rfl : i2 = len1 := by omega
              have HL2 := Lib.hid (show (puts high xs1 L i2).length ≤ 16777216 by have := HL.out; have := HL1.out; simp only [List.length_nil] at *; omega)
              generalize puts high xs1 L i2 = M at *
              have H := Lib.hid h
              clear h
              go_wp2_with fail
              have CA := Lib.hid (bytes_st (H.out.below (W' := wr.drew) ⟨rfl, rfl, rfl, Nat.le_refl _, fun _ _ => rfl⟩).st HL2.out)
              have BA := Lib.hid (fun (wa : World) (hb : Below wr.drew.heap.size wr.drew wa) => show Below wr.heap.size wr wa from ⟨hb.os, hb.tape, hb.output, hb.size, hb.block⟩)
              have BB := Lib.hid (fun (wa wb : World) (hb : Below wr.heap.size wr wa) (hc : Below wa.heap.size wa wb) => show Below wr.heap.size wr wb from hb.trans ⟨hc.os, hc.tape, hc.output, hc.size, fun k hk => hc.block k (Nat.lt_of_lt_of_le hk hb.size)⟩)
              have CB := Lib.hid (fun (W : World) (hb : Below wr.heap.size wr W) => bytes_st (H.out.below hb).swap.st HL2.out)
              have KA := Lib.hid (fun (W : World) (hb : Below wr.heap.size wr W) (n : Nat) => count_st ((H.out.below hb).drewN n).st HL2.out)
              have KB := Lib.hid (fun (W : World) (hb : Below wr.heap.size wr W) (n : Nat) => count_st ((H.out.below hb).drewN n).swap.st HL2.out)
              have FIN := Lib.hid (fun (W : World) (hb : Below wr.heap.size wr W) (n : Nat) => ((H.out.below hb).drewN n).keeps)
              generalize packed high M = pk at *
              go_region_law (go_simp; first
                | (go_at_call_of 14 (w1.heap.size); refine CA.out.mono ?_; rintro e wa ⟨aa1, ca1, rfl, hownA, hbelA⟩; have convA := conv_told hownA; have bA := BA.out wa hbelA)
                | (go_at_call_of 14 (w2.heap.size); refine (CB.out _ bA).mono ?_; rintro e wb ⟨aa2, ca2, rfl, hownB, hbelB⟩; have convB := conv_told hownB; have bB := BB.out wa wb bA hbelB; have convA2 := conv_told (own_kept hownA (fun k e => hbelB.block k (hownA.lt k e).2)))
                | (go_at_call_of 15 (w1.heap.size); refine (KA.out _ bB 0).mono ?_; rintro e wc ⟨rfl, n1, rfl⟩)
                | (go_at_call_of 15 (w2.heap.size); refine (KB.out _ bB n1).mono ?_; rintro e wd ⟨rfl, n2, rfl⟩))
              all_goals
                have X := Lib.hid (fun n : Nat => FIN.out wb bB n)
                clear hownA hbelA convA bA hownB hbelB convB convA2 bB
                go_wp2_with fail
                go_ret
                exact ⟨rfl, X.out _⟩
end Go.Proofs.Yteeapkbmlhlhjaa
