/- The walk of bought. -/
import Derived.Test.YtoiknbbimgeihaaXI
namespace Go.Proofs.Ytoiknbbimgeihaa
open Go.RowKit
set_option linter.unusedVariables false

theorem run_make_rows (k : Nat) (hk : k ≤ 16) (w : World) : (Instr.makeSlice 54 (.int .i64 (k : Int)) (.int .i64 (k : Int))).run Try.prog w = .ok (.slice (some ⟨w.heap.size, 0, none⟩) k k) (w.alloc (.cells (madeCells #[.slice none 0 0, .slice none 0 0] (2 * k)) 56)) := by
  obtain ⟨i, hi, hzz⟩ := Option.map_eq_some_iff.1 info56
  simp only [Prod.mk.injEq] at hzz
  obtain ⟨hz, hs, hb⟩ := hzz
  have hr := run_make (P := Try.prog) w 54 56 i _ Try.underlying54 hi hz .i64 .i64 k k (by omega) (Int.le_refl _) (by rw [hb]; omega) (by omega)
  simp only [Int.toNat_natCast, hs] at hr
  rw [Nat.mul_comm k 2] at hr
  exact hr
theorem ra_start (w : World) (ws : List Nat) (k : Nat) : RA (w.alloc (.cells (madeCells #[.slice none 0 0, .slice none 0 0] (2 * k)) 56)) ws w.heap.size k 0 :=
  ⟨⟨_, heap_alloc_new _ _, size_madeCells _ _⟩, fun j hj => absurd hj (by omega)⟩

/-- The prices, in the symbols' order. -/
def pricesOf (zs : List Int) (us : List Nat) : List Nat := us.map (fun s => (zs.getD s 0).toNat)

theorem bought_le (ws : List Nat) (j t : Nat) (ht : t ≤ (Huff.rowP ws j).length) : ∀ c ∈ Huff.bought ws j t, c ≤ ws.length := by
  induction j generalizing t with
  | zero => intro c hc; simp [Huff.bought] at hc
  | succ j ih =>
    obtain ⟨k1, k2, k3⟩ := Huff.bought_at ws j t ht
    intro c hc
    rw [Huff.bought, List.mem_cons] at hc
    rcases hc with rfl | hc
    · exact k1
    · exact ih _ k3 c hc

def BoughtSay (w : World) (ws : List Nat) (most : Nat) (e : Ending) (w' : World) : Prop :=
  ∃ g, e = .returned (.slice (some ⟨g, 0, none⟩) most most) ∧ Ints w' (some ⟨g, 0, none⟩) most (natZ (Huff.bought ws most (2 * ws.length - 2))) ∧ w.heap.size ≤ g ∧ Below w.heap.size w w'

set_option maxRecDepth 100000 in
set_option maxHeartbeats 1600000 in
theorem bought_any (w : World) (a : Option Addr) (n c : Nat) (zs : List Int) (b : Option Addr) (k d : Nat) (us : List Nat) (most : Nat) (h : Ints w a n zs) (hu : Ints w b k (natZ us)) (hlt : ∀ s ∈ us, s < n) (hn : n ≤ 300) (hk : k ≤ 300) (hm : 1 ≤ most ∧ most ≤ 16)
    (hz : ∀ z ∈ zs, 0 ≤ z ∧ z ≤ 1099511627776) (hfit : 2 * k - 2 ≤ (Huff.rowP (pricesOf zs us) most).length) :
    Calls Try.prog 24 #[.slice a n c, .slice b k d, .int .i64 (most : Nat)] w (BoughtSay w (pricesOf zs us) most) := by
  have hul : us.length = k := by have := hu.1; rwa [natZ_length] at this
  have hwl : (pricesOf zs us).length = k := by simp [pricesOf, hul]
  have hmk := fun m hm => run_make_row' (P := Try.prog) 22 3 (.int .i64 0) 8 Try.underlying22 info3 rfl .i64 .i64 m (show 8 * m ≤ 281474976710656 by have : m ≤ 300 := hm; omega) (by have : m ≤ 300 := hm; omega)
  have hmk1 := hmk k hk
  have hmk2 := hmk most (by omega)
  have hmk3 := run_make_rows most hm.2
  have HZ := Lib.hid h
  have HU := Lib.hid hu
  have HLT := Lib.hid (And.intro hlt hz)
  have HFIT := Lib.hid hfit
  have HUL := Lib.hid (And.intro hul hwl)
  clear h hu hlt hz hfit hmk hul hwl
  go_enter Try.func24, Try.ntmps24
  go_wp2
  go_loopw [21] (fun cnt wr => ∃ i : Nat, i ≤ k ∧ cnt = .int .i64 i ∧ Row wr w.heap.size k (fun j => if j < i then ((pricesOf zs us).getD j 0 : Nat) else 0) ∧ Below w.heap.size w wr) (fun cnt _ => k - (intOf cnt).toNat)
  case atStart => exact ⟨0, Nat.zero_le _, rfl, (made_row w k).congr (fun j _ => by simp), (Below.refl _ _).alloc (Nat.le_refl _) _⟩
  case round =>
    obtain ⟨i, hi, rfl, hrow, hb⟩ := hrel
    by_cases hlt : i < k
    · obtain ⟨b1, o1, s1, rfl, hs1, _, hc1⟩ := (HU.out.below hb).at hlt
      have hul : i < us.length := by rw [HUL.out.1]; exact hlt
      have hus : us[i]? = some us[i] := List.getElem?_eq_getElem hul
      have hs1' := natZ_get (us := us) (i := i) (by rw [HUL.out.1]; exact hlt)
      rw [hs1'] at hs1
      cases hs1
      obtain ⟨s, hs⟩ : ∃ s, s = us.getD i 0 := ⟨_, rfl⟩
      have hsm : s ∈ us := by
        rw [hs, List.getD_eq_getElem?_getD, hus]; exact List.getElem_mem _
      have hsn := HLT.out.1 s hsm
      rw [← hs] at hc1
      obtain ⟨b2, o2, z, rfl, hz1, _, hc2⟩ := (HZ.out.below hb).at hsn
      have hzb := HLT.out.2 z (List.mem_of_getElem? hz1)
      have hpr : ((pricesOf zs us).getD i 0 : Int) = z := by
        unfold pricesOf
        rw [List.getD_eq_getElem?_getD, List.getElem?_map, hus]
        simp only [Option.map_some, Option.getD_some]
        have e : us[i] = s := by rw [hs, List.getD_eq_getElem?_getD, hus]; rfl
        rw [e, zs_getD hz1, Int.toNat_of_nonneg hzb.1]
      obtain ⟨old, hold, hfr⟩ : ∃ old : Int, wr.cell? ⟨w.heap.size, i, none⟩ = some (.int .i64 old) ∧ wr.frozen? ⟨w.heap.size, i, none⟩ = false := ⟨_, hrow.cell hlt⟩
      have X := Lib.hid (show Row (wr.setCell ⟨w.heap.size, i, none⟩ (.int .i64 z)) w.heap.size k (fun j => if j < i + 1 then ((pricesOf zs us).getD j 0 : Nat) else 0) ∧ Below w.heap.size w (wr.setCell ⟨w.heap.size, i, none⟩ (.int .i64 z)) from by
        refine ⟨hrow.set hlt (fun j hj => ?_), below_set hb (Nat.le_refl _) _⟩
        by_cases hji : j = i
        · subst hji
          rw [if_pos (by omega), if_pos rfl, hpr]
        · rw [if_neg hji]
          by_cases hj2 : j < i
          · rw [if_pos hj2, if_pos (by omega)]
          · rw [if_neg hj2, if_neg (by omega)])
      clear hrow hb hus hs1' hs hsm hz1 hzb hpr
      go_wp2
      go_roundw
      case rel => exact ⟨i + 1, hlt, by go_num, X.out.1, X.out.2⟩
      case measure => simp [intOf]; omega
    · obtain rfl : i = k := by omega
      have hws : ∀ u ∈ pricesOf zs us, u ≤ 1099511627776 := fun u hu => by
        simp only [pricesOf, List.mem_map] at hu
        obtain ⟨s, hs, rfl⟩ := hu
        obtain ⟨b2, o2, z, _, hz1, _, _⟩ := HZ.out.at (HLT.out.1 s hs)
        rw [zs_getD hz1]
        have := HLT.out.2 z (List.mem_of_getElem? hz1)
        omega
      have hwl : (pricesOf zs us).length = i := HUL.out.2
      have hpi : Ints wr (some ⟨w.heap.size, 0, none⟩) i (natZ (pricesOf zs us)) := hrow.ints (by rw [natZ_length, hwl]) (natZ_le (fun u hu => by have := hws u hu; omega)) (fun j hj => by
        rw [if_pos hj]; exact natZ_get (by rw [hwl]; exact hj))
      have hwr : w.heap.size < wr.heap.size := hrow.lt
      generalize pricesOf zs us = ws at *
      subst hwl
      have PI := Lib.hid hpi
      have HB := Lib.hid hb
      have HWS := Lib.hid hws
      clear hrow hb hpi hws hmk1 hi HLT HUL
      go_wp2
      clear hmk3
      have HR0 := Lib.hid (ra_start wr ws most)
      have PI0 := Lib.hid (PI.out.later (w' := wr.alloc (.cells (madeCells #[.slice none 0 0, .slice none 0 0] (2 * most)) 56)) (fun k hk => Below.heap_alloc _ _ _ hk))
      have HB0 := Lib.hid (HB.out.alloc HB.out.size (.cells (madeCells #[.slice none 0 0, .slice none 0 0] (2 * most)) 56))
      clear PI HB
      generalize wr.alloc (.cells (madeCells #[.slice none 0 0, .slice none 0 0] (2 * most)) 56) = w1 at *
      have HG := Lib.hid hwr
      clear hwr
      generalize wr.heap.size = G at *
      go_loopw [11, 38] (fun lg cnt wl => ∃ (i : Nat) (al : Option Addr) (cl : Nat), i ≤ most ∧ cnt = .int .i64 i ∧ lg = .slice al (Huff.rowP ws i).length cl ∧ Ints wl al (Huff.rowP ws i).length (natZ (Huff.rowP ws i)) ∧ RA wl ws G most i ∧ Ints wl (some ⟨w.heap.size, 0, none⟩) ws.length (natZ ws) ∧ Below w.heap.size w wl) (fun _ cnt _ => most - (intOf cnt).toNat)
      case atStart => exact ⟨0, none, 0, Nat.zero_le _, rfl, rfl, ⟨rfl, by intro z hz; simp [Huff.rowP, natZ] at hz, fun hp => absurd hp (by simp [Huff.rowP])⟩, HR0.out, PI0.out, HB0.out⟩
      case round =>
        clear PI0 HB0 HR0
        obtain ⟨i, al, cl, hi, rfl, rfl, hil, hra, hpi, hb⟩ := hrel
        by_cases hlt : i < most
        · have hle := rowP_le HWS.out i
          have hp16 : 2 ^ i ≤ 2 ^ 16 := Nat.pow_le_pow_right (by omega) (by omega)
          have hpl : ∀ p ∈ Huff.rowP ws i, p ≤ 72057594037927936 := fun p hp => by have := hle p hp; omega
          have hsh := rowP_short ws i
          have CP := Lib.hid (pairs_any wr al _ cl (Huff.rowP ws i) hil (by omega) (fun p hp => by have := hpl p hp; omega))
          have HPL := Lib.hid (fun p hp => pairs_le hpl p hp)
          have HRL := Lib.hid (rowP_length ws i)
          have HRA := Lib.hid hra
          have HPI := Lib.hid hpi
          have HB := Lib.hid hb
          have hwlz := hra.lt
          have hps : (Huff.pairs (Huff.rowP ws i)).length ≤ 300 := by rw [Huff.pairs_length]; omega
          clear hle hp16 hpl hil hra hpi hb hsh
          go_wp2_with fail
          refine CP.out.mono ?_
          rintro e w2 ⟨g2, rfl, hi2, hb2⟩
          have CM := Lib.hid (merged_any w2 (some ⟨w.heap.size, 0, none⟩) ws.length ws.length ws (some ⟨g2, 0, none⟩) _ (Huff.pairs (Huff.rowP ws i)).length (Huff.pairs (Huff.rowP ws i)) (HPI.out.below hb2) hi2 (by omega) (by omega) (fun p hp => by have := HWS.out p hp; omega) (fun p hp => by have := HPL.out p hp; omega))
          have HB2 := Lib.hid hb2
          clear hi2 hb2
          go_wp2_with fail
          refine CM.out.mono ?_
          rintro e w3 ⟨ax, cx, ay, cy, he, hx, hy, fx, fy, hb3⟩
          rw [← HRL.out] at he hx hy
          subst he
          have hr3 := (HRA.out.later HB2.out.block).later hb3.block
          obtain ⟨v0, s0, s1⟩ := hr3.spot (k := i * 2) (by omega)
          obtain ⟨v1, s2, s3⟩ := hr3.spot (k := i * 2 + 1) (by omega)
          obtain ⟨hr4, s4⟩ := RA.step (w := w2) hr3 hlt _ _ (Nat.lt_of_lt_of_le hwlz HB2.out.size) ax cx ay cy rfl rfl hx hy fx fy
          have hwG : w.heap.size ≤ G := by have := HG.out; omega
          have hb4 : Below w.heap.size w ((w3.setCell ⟨G, i * 2, none⟩ (.slice ax (Huff.rowP ws (i + 1)).length cx)).setCell ⟨G, i * 2 + 1, none⟩ (.slice ay ((Huff.rowP ws (i + 1)).length + 1) cy)) :=
            below_set (below_set (below_join (below_join HB.out HB2.out (Nat.le_refl _)) hb3 (Nat.le_refl _)) hwG _) hwG _
          have hk4 : ∀ k, k ≠ G → ((w3.setCell ⟨G, i * 2, none⟩ (.slice ax (Huff.rowP ws (i + 1)).length cx)).setCell ⟨G, i * 2 + 1, none⟩ (.slice ay ((Huff.rowP ws (i + 1)).length + 1) cy)).heap[k]? = w3.heap[k]? := fun k hk =>
            (Below.heap_setCell _ _ _ _ (by simpa using hk)).trans (Below.heap_setCell _ _ _ _ (by simpa using hk))
          have hil4 := hx.laterAt (fun x hx => hk4 _ (by have := fx x hx; have := HB2.out.size; omega))
          have hpi4 := ((HPI.out.below HB2.out).below hb3).laterAt (w' := (w3.setCell ⟨G, i * 2, none⟩ (.slice ax (Huff.rowP ws (i + 1)).length cx)).setCell ⟨G, i * 2 + 1, none⟩ (.slice ay ((Huff.rowP ws (i + 1)).length + 1) cy)) (fun x hx => hk4 _ (by cases hx; have := HG.out; simp only; omega))
          have X := Lib.hid (And.intro (And.intro hil4 hr4) (And.intro hpi4 hb4))
          have s2' : (w3.setCell ⟨G, i * 2, none⟩ (.slice ax (Huff.rowP ws (i + 1)).length cx)).cell? ⟨G, i * 2 + 1, none⟩ = some v1 := (World.cell?_setCell_other _ _ _ _ (by intro e; simp only [Addr.mk.injEq] at e; omega)).trans s2
          clear hx hy fx fy hb3 hr3 hr4 hb4 hk4 hil4 hpi4
          go_wp2_with fail
          go_roundw
          case rel => exact ⟨i + 1, ax, cx, hlt, by go_num, rfl, X.out.1.1, X.out.1.2, X.out.2.1, X.out.2.2⟩
          case measure => simp [intOf]; omega
        · obtain rfl : most = i := by omega
          obtain ⟨t0, ht0⟩ : ∃ t0 : Nat, t0 = 2 * ws.length - 2 := ⟨_, rfl⟩
          have hmx : max (2 * (ws.length : Int) - 2) 0 = (t0 : Int) := by omega
          have hmx2 : max 0 (2 * (ws.length : Int) - 2) = (t0 : Int) := by omega
          have HT0 := Lib.hid ht0
          have HRA := Lib.hid hra
          have HB := Lib.hid hb
          clear hil hra hpi hb ht0 hlt hi
          have HM := Lib.hid hm
          go_wp2_with fail
          have HR5 := Lib.hid (HRA.out.later (w' := wr.alloc (.cells (madeCells #[.int .i64 0] most) 3)) (fun k hk => Below.heap_alloc _ _ _ hk))
          have RW5 := Lib.hid (made_row wr most)
          have HBY := Lib.hid HB.out
          have HYG := Lib.hid HRA.out.lt
          obtain ⟨w5, hw5⟩ : ∃ w5, w5 = wr := ⟨_, rfl⟩
          rw [← hw5] at HRA HB HR5 RW5 HBY HYG ⊢
          have HFIT := Lib.hid (show t0 ≤ (Huff.rowP ws most).length by have := HFIT.out; have := HT0.out; omega)
          clear hw5 hmx hmx2 hmk2
          go_loopw [14, 63] (fun th cnt wl => ∃ i t : Nat, i ≤ most ∧ cnt = .int .i64 i ∧ th = .int .i64 t ∧ t ≤ (Huff.rowP ws (most - i)).length ∧ (Huff.bought ws most t0).drop i = Huff.bought ws (most - i) t ∧ Row wl w5.heap.size most (fun j => if j < i then ((Huff.bought ws most t0).getD j 0 : Nat) else 0) ∧ Below w5.heap.size w5 wl) (fun _ cnt _ => most - (intOf cnt).toNat)
          case atStart => exact ⟨0, t0, Nat.zero_le _, rfl, rfl, HFIT.out, rfl, RW5.out.congr (fun j _ => by simp), (Below.refl _ _).alloc (Nat.le_refl _) _⟩
          case round =>
            have HF2 := Lib.hid HFIT.out
            clear RW5 HR5 HFIT
            obtain ⟨i, t, hi, rfl, rfl, ht, hdrop, hrow, hb⟩ := hrel
            by_cases hlt : i < most
            · obtain ⟨j, hj⟩ : ∃ j, most - i = j + 1 := ⟨most - i - 1, by omega⟩
              rw [hj] at ht hdrop
              obtain ⟨ax, cx, ay, cy, q1, q2, q3, q4, q5, q6⟩ := (HRA.out.later hb.block).rows j (by omega)
              obtain ⟨k1, k2, k3⟩ := Huff.bought_at ws j t ht
              rw [Huff.bought] at hdrop
              obtain ⟨cc, hcc⟩ : ∃ cc, cc = Huff.cnt ws (Huff.pairs (Huff.rowP ws j)) t := ⟨_, rfl⟩
              rw [← hcc] at hdrop k1 k2 k3
              obtain ⟨b3, o3, z, rfl, hz1, _, hc3⟩ := q4.at (i := t) (by omega)
              have hzc : z = (cc : Int) := by
                have h1 := natZ_get (us := cntsTo ws (Huff.pairs (Huff.rowP ws j)) (Huff.rowP ws (j + 1)).length) (i := t) (by rw [cntsTo_length]; omega)
                rw [h1] at hz1
                cases hz1
                unfold cntsTo
                rw [List.getD_eq_getElem?_getD, List.getElem?_map, List.getElem?_range (by omega), hcc]
                rfl
              subst hzc
              have hgi : (Huff.bought ws most t0)[i]? = some cc := by
                have : ((Huff.bought ws most t0).drop i)[0]? = some cc := by rw [hdrop]; rfl
                rwa [List.getElem?_drop] at this
              have hd1 : (Huff.bought ws most t0).drop (i + 1) = Huff.bought ws j (2 * (t - cc)) := by
                rw [← List.drop_drop, hdrop]; rfl
              obtain ⟨old, hold, hfr⟩ : ∃ old : Int, wr.cell? ⟨w5.heap.size, i, none⟩ = some (.int .i64 old) ∧ wr.frozen? ⟨w5.heap.size, i, none⟩ = false := ⟨_, hrow.cell hlt⟩
              have X := Lib.hid (show 2 * (t - cc) ≤ (Huff.rowP ws (most - (i + 1))).length ∧ (Huff.bought ws most t0).drop (i + 1) = Huff.bought ws (most - (i + 1)) (2 * (t - cc)) ∧ Row (wr.setCell ⟨w5.heap.size, i, none⟩ (.int .i64 (cc : Int))) w5.heap.size most (fun j => if j < i + 1 then ((Huff.bought ws most t0).getD j 0 : Nat) else 0) ∧ Below w5.heap.size w5 (wr.setCell ⟨w5.heap.size, i, none⟩ (.int .i64 (cc : Int))) from by
                rw [show most - (i + 1) = j by omega]
                refine ⟨k3, hd1, hrow.set hlt (fun j' hj => ?_), below_set hb (Nat.le_refl _) _⟩
                by_cases hji : j' = i
                · subst hji
                  rw [if_pos (by omega), if_pos rfl, List.getD_eq_getElem?_getD, hgi]; rfl
                · rw [if_neg hji]
                  by_cases hj2 : j' < i
                  · rw [if_pos hj2, if_pos (by omega)]
                  · rw [if_neg hj2, if_neg (by omega)])
              have hsh := rowP_short ws (j + 1)
              obtain ⟨m1, hm1⟩ : ∃ m1 : Nat, (most : Int) - 1 = (m1 : Int) := ⟨most - 1, by omega⟩
              have hm2 : (m1 : Int) - (i : Int) = (j : Int) := by omega
              obtain ⟨u, hu⟩ : ∃ u : Nat, (t : Int) - (cc : Int) = (u : Int) := ⟨t - cc, by omega⟩
              have hu2 : 2 * (t - cc) = 2 * u := by omega
              rw [hu2] at X
              have hjm : j < most := by omega
              have htl : t < (Huff.rowP ws (j + 1)).length + 1 := by omega
              have hwid : t ≤ 600 := by omega
              have hu6 : u ≤ 600 := by omega
              have hjn : j < most := hjm
              have HU2 := Lib.hid hu2
              clear hrow hb hdrop hgi hd1 q3 q4 q5 q6 k1 k2 k3 hcc hz1 hu2 hsh ht hj
              generalize (Huff.rowP ws (j + 1)).length = T at *
              go_wp2_with fail
              go_roundw
              case rel => exact ⟨i + 1, 2 * u, hlt, by go_num, by go_num, X.out.1, X.out.2.1, X.out.2.2.1, X.out.2.2.2⟩
              case measure => simp [intOf]; omega
            · obtain rfl : most = i := by omega
              have hints : Ints wr (some ⟨w5.heap.size, 0, none⟩) most (natZ (Huff.bought ws most t0)) := hrow.ints (by rw [natZ_length, Huff.bought_length]) (natZ_le (fun u hu => by have := bought_le ws most t0 HF2.out u hu; omega)) (fun j hj => by
                rw [if_pos hj]; exact natZ_get (by rw [Huff.bought_length]; exact hj))
              rw [HT0.out] at hints
              have X := Lib.hid (And.intro hints (below_join HBY.out hb (Nat.le_refl _)))
              have hle := HBY.out.size
              clear hrow hb hdrop hints ht
              go_wp2
              go_ret
              exact ⟨w5.heap.size, rfl, X.out.1, hle, X.out.2⟩
end Go.Proofs.Ytoiknbbimgeihaa
