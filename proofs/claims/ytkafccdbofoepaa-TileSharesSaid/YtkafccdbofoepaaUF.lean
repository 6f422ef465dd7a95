/- TileShares, its walk. -/
import Derived.Test.YtkafccdbofoepaaUE
namespace Go.Proofs.Ytkafccdbofoepaa
open Go.RowKit Go.Maps
set_option linter.unusedVariables false

/-- All planes of a state hold the same tiles, nine of them. -/
def Same (S : St) (T : Nat → Nat → Option Nat) : Prop := S.free = 21 ∧ ∀ (k : Nat) q, S.ps[k]? = some q → q.T = T ∧ q.L.length = 9 ∧ q.W = 40 ∧ q.H = 40 ∧ ∀ x y, x < 40 → y < 40 → px S q x y = 9
theorem Same.more {S : St} {T : Nat → Nat → Option Nat} {k : Nat} {p q : Pl} (h : Same S T) (hk : S.ps[k]? = some p) (hT : q.T = p.T) (hL : q.L = p.L) (hW : q.W = p.W) (hH : q.H = p.H) : Same (S.more q) T := by
  refine ⟨h.1, fun m r hr => ?_⟩
  have one : ∀ r : Pl, (r.T = T ∧ r.L.length = 9 ∧ r.W = 40 ∧ r.H = 40 ∧ ∀ x y, x < 40 → y < 40 → px S r x y = 9) → (r.T = T ∧ r.L.length = 9 ∧ r.W = 40 ∧ r.H = 40 ∧ ∀ x y, x < 40 → y < 40 → px (S.more q) r x y = 9) := fun r hr => hr
  simp only [St.more, List.getElem?_append] at hr
  split at hr
  · exact one r (h.2 m r hr)
  · rw [List.getElem?_singleton] at hr
    split at hr
    · cases hr
      obtain ⟨a1, a2, a3, a4, a5⟩ := h.2 k p hk
      refine one q ⟨hT.trans a1, by rw [hL]; exact a2, hW.trans a3, hH.trans a4, fun x y hx hy => ?_⟩
      rw [← a5 x y hx hy]
      unfold px
      rw [hT]
    · cases hr
theorem Same.shared {S : St} {T : Nat → Nat → Option Nat} {k : Nat} {p : Pl} (h : Same S T) (hl : 2 ≤ S.ps.length) (hk : S.ps[k]? = some p) (i j : Nat) : ¬ aloneP S p i j := by
  rintro ⟨t, e, hc⟩
  have : cnt S.ps (i, j) t = S.ps.length := by
    unfold cnt
    refine List.countP_eq_length.2 (fun q hq => ?_)
    obtain ⟨m, hm⟩ := List.getElem?_of_mem hq
    rw [(h.2 m q hm).1, ← (h.2 k p hk).1, e]
    exact beq_self_eq_true _
  omega
theorem Row.room {w : World} {B : Nat} {aa : Option Addr} {n cap : Nat} {ps : List Pl} (h : Row w B (.slice aa n cap) ps) : n ≤ cap := by
  rcases h.2 with ⟨e1, e2⟩ | ⟨g, cp, cur, e, hB, hh, p1, p2, p3, p4⟩
  · cases e1
    exact Nat.le_refl _
  · cases e
    exact p1
theorem Fr.snapS {w wr : World} {A cap k : Nat} {S : St} {v : Value} {p : Pl} {T : Nat → Nat → Option Nat} (h : Fr w A cap S v wr) (hs : Same S T) (hk : S.ps[k]? = some p) (hm : S.ps.length < 1048576) :
    Calls Try.prog 18 #[.pointer (some ⟨p.pb, 0, none⟩)] wr fun e w' => ∃ q : Pl, e = .returned (.pointer (some ⟨q.pb, 0, none⟩)) ∧ Sn w A cap S q v w' ∧ Same (S.more q) T := by
  refine (snap_any wr S h.rep k p hk hm).mono ?_
  rintro e w' ⟨q, rfl, hr, hK, e1, e2, e3, e4, h1, h2⟩
  have := h.keeps.size
  exact ⟨q, rfl, ⟨hr, h.A, h.cap, h.low.more (by omega) (by omega), h.keeps.over hK (fun b hb => h.low.live b hb), h.row.keep h.rep hK (fun b hb => .inr (.inr hb))⟩, hs.more hk e3 e4 e1 e2⟩
theorem Sn.calls {w wr : World} {A : Nat} {S : St} {q : Pl} {v : Value} {T : Nat → Nat → Option Nat} (h : Sn w A 30 S q v wr) (hs : Same (S.more q) T) :
    Calls Try.prog 22 #[.pointer (some ⟨A, 0, none⟩)] wr (fun e w' => e = .returned (.int .i64 21) ∧ w' = wr) ∧ Calls Try.prog 23 #[.pointer (some ⟨q.pb, 0, none⟩)] wr (fun e w' => e = .returned (.int .i64 9) ∧ w' = wr) := by
  have hk : (S.more q).ps[S.ps.length]? = some q := by simp [St.more]
  have h1 := free_any wr _ h.rep
  have h2 := tilesN_any wr _ h.rep _ q hk
  rw [hs.1, show (S.more q).A = A from h.A] at h1
  rw [(hs.2 _ q hk).2.1] at h2
  exact ⟨h1, h2⟩

theorem shares_bad (a0 a1 a2 a3 : Int) (w : World) (h : ¬ (1 ≤ a0 ∧ a0 ≤ 6 ∧ 0 ≤ a1 ∧ a1 < 40 ∧ 0 ≤ a2 ∧ a2 < 40 ∧ 0 ≤ a3 ∧ a3 < 4294967296)) : Calls Try.prog 7 #[.int .i64 a0, .int .i64 a1, .int .i64 a2, .int .i64 a3] w (Yes w) := by
  have A := Lib.hid (anchor_any w)
  by_cases h0 : a0 < 1
  · have t0 : decide (a0 < 1) = true := decide_eq_true h0
    clear h h0
    go_enter Try.func7, Try.ntmps7
    go_wp2_with fail
    refine A.out.mono ?_
    rintro e w1 ⟨rfl, hk⟩
    have HK := Lib.hid hk
    clear hk
    go_wp2_with fail
    go_ret
    exact ⟨rfl, HK.out⟩
  have t0 : decide (a0 < 1) = false := decide_eq_false h0
  by_cases h1 : 6 < a0
  · have t1 : decide (6 < a0) = true := decide_eq_true h1
    clear h h0 h1
    go_enter Try.func7, Try.ntmps7
    go_wp2_with fail
    refine A.out.mono ?_
    rintro e w1 ⟨rfl, hk⟩
    have HK := Lib.hid hk
    clear hk
    go_wp2_with fail
    go_ret
    exact ⟨rfl, HK.out⟩
  have t1 : decide (6 < a0) = false := decide_eq_false h1
  by_cases h2 : a1 < 0
  · have t2 : decide (a1 < 0) = true := decide_eq_true h2
    clear h h0 h1 h2
    go_enter Try.func7, Try.ntmps7
    go_wp2_with fail
    refine A.out.mono ?_
    rintro e w1 ⟨rfl, hk⟩
    have HK := Lib.hid hk
    clear hk
    go_wp2_with fail
    go_ret
    exact ⟨rfl, HK.out⟩
  have t2 : decide (a1 < 0) = false := decide_eq_false h2
  by_cases h3 : 40 ≤ a1
  · have t3 : decide (40 ≤ a1) = true := decide_eq_true h3
    clear h h0 h1 h2 h3
    go_enter Try.func7, Try.ntmps7
    go_wp2_with fail
    refine A.out.mono ?_
    rintro e w1 ⟨rfl, hk⟩
    have HK := Lib.hid hk
    clear hk
    go_wp2_with fail
    go_ret
    exact ⟨rfl, HK.out⟩
  have t3 : decide (40 ≤ a1) = false := decide_eq_false h3
  by_cases h4 : a2 < 0
  · have t4 : decide (a2 < 0) = true := decide_eq_true h4
    clear h h0 h1 h2 h3 h4
    go_enter Try.func7, Try.ntmps7
    go_wp2_with fail
    refine A.out.mono ?_
    rintro e w1 ⟨rfl, hk⟩
    have HK := Lib.hid hk
    clear hk
    go_wp2_with fail
    go_ret
    exact ⟨rfl, HK.out⟩
  have t4 : decide (a2 < 0) = false := decide_eq_false h4
  by_cases h5 : 40 ≤ a2
  · have t5 : decide (40 ≤ a2) = true := decide_eq_true h5
    clear h h0 h1 h2 h3 h4 h5
    go_enter Try.func7, Try.ntmps7
    go_wp2_with fail
    refine A.out.mono ?_
    rintro e w1 ⟨rfl, hk⟩
    have HK := Lib.hid hk
    clear hk
    go_wp2_with fail
    go_ret
    exact ⟨rfl, HK.out⟩
  have t5 : decide (40 ≤ a2) = false := decide_eq_false h5
  by_cases h6 : a3 < 0
  · have t6 : decide (a3 < 0) = true := decide_eq_true h6
    clear h h0 h1 h2 h3 h4 h5 h6
    go_enter Try.func7, Try.ntmps7
    go_wp2_with fail
    refine A.out.mono ?_
    rintro e w1 ⟨rfl, hk⟩
    have HK := Lib.hid hk
    clear hk
    go_wp2_with fail
    go_ret
    exact ⟨rfl, HK.out⟩
  have t6 : decide (a3 < 0) = false := decide_eq_false h6
  by_cases h7 : 4294967296 ≤ a3
  · have t7 : decide (4294967296 ≤ a3) = true := decide_eq_true h7
    clear h h0 h1 h2 h3 h4 h5 h6 h7
    go_enter Try.func7, Try.ntmps7
    go_wp2_with fail
    refine A.out.mono ?_
    rintro e w1 ⟨rfl, hk⟩
    have HK := Lib.hid hk
    clear hk
    go_wp2_with fail
    go_ret
    exact ⟨rfl, HK.out⟩
  have t7 : decide (4294967296 ≤ a3) = false := decide_eq_false h7
  omega
set_option maxRecDepth 100000 in
set_option maxHeartbeats 1600000 in
theorem shares_good (n x y v : Nat) (w : World) (hn1 : 1 ≤ n) (hn6 : n ≤ 6) (hx : x < 40) (hy : y < 40) (hv : v ≤ 4294967295) : Calls Try.prog 7 #[.int .i64 (n : Int), .int .i64 (x : Int), .int .i64 (y : Int), .int .i64 (v : Int)] w (Yes w) := by
  have A := Lib.hid (anchor_any w)
  have t0 : decide ((n : Int) < 1) = false := decide_eq_false (by omega)
  have t1 : decide (6 < (n : Int)) = false := decide_eq_false (by omega)
  have t2 : decide ((x : Int) < 0) = false := decide_eq_false (by omega)
  have t3 : decide (40 ≤ (x : Int)) = false := decide_eq_false (by omega)
  have t4 : decide ((y : Int) < 0) = false := decide_eq_false (by omega)
  have t5 : decide (40 ≤ (y : Int)) = false := decide_eq_false (by omega)
  have t6 : decide ((v : Int) < 0) = false := decide_eq_false (by omega)
  have t7 : decide (4294967296 ≤ (v : Int)) = false := decide_eq_false (by omega)
  go_enter Try.func7, Try.ntmps7
  go_wp2_with fail
  refine A.out.mono ?_
  rintro e w1 ⟨rfl, hk⟩
  have K1 := Lib.hid hk
  have C1 := Lib.hid (new_yes 30 w1 (by omega))
  clear hk A
  go_wp2_with fail
  refine C1.out.mono ?_
  rintro e w2 ⟨rfl, hR, hK, -⟩
  have L1 := Lib.hid (low_new w1.heap.size 30 w.heap.size K1.out.size)
  have K2 := Lib.hid (K1.out.trans hK (fun _ _ h => h))
  have C2 := Lib.hid (plane_yes w2 _ hR 40 40 (by omega) (by omega) (by simp [St.new]))
  clear hR hK C1 K1
  clear t0 t1 t2 t3 t4 t5 t6 t7
  generalize w1.heap.size = A at *
  go_wp2_with fail
  refine C2.out.mono ?_
  rintro e w3 ⟨p, rfl, hR, hK, hW, hH, hT, -, hpb, hmb⟩
  have hk0 : ((St.new A 30).more p).ps[0]? = some p := rfl
  have L3 := Lib.hid (show Low ((St.new A 30).more p) w.heap.size from L1.out.more (by have := K2.out.size; omega) (by have := K2.out.size; omega))
  have K3 := Lib.hid (K2.out.trans hK (fun _ _ h => h))
  have CF := Lib.hid (fill_nine w3 _ hR p hk0 hT hW hH rfl)
  have P3 := Lib.hid (And.intro hW (And.intro hH hk0))
  have hps0 : ((St.new A 30).more p).ps = [p] := rfl
  have SA : ((St.new A 30).more p).A = A := rfl
  have SC : ((St.new A 30).more p).cap = 30 := rfl
  have PS := Lib.hid (And.intro hps0 (And.intro SA SC))
  clear hR hK hW hH hT hpb hmb C2 L1 K2 hk0 SA SC hps0
  generalize (St.new A 30).more p = S0 at *
  go_wp2_with fail
  refine CF.out.mono ?_
  rintro e w4 ⟨rfl, S1, p1, hm, hr, hk2, hfr, hL, hpx⟩
  have hps : S1.ps = [p1] := by rw [hm.ps, PS.out.1]; rfl
  have hA : S1.A = A := hm.A.trans PS.out.2.1
  have O1 := Lib.hid (show Fr w A 30 S1 (.slice (some ⟨w4.heap.size, 0, none⟩) 1 1) (w4.alloc (.cells #[.pointer (some ⟨p1.pb, 0, none⟩)] 26)) from
    ⟨hr.later ((Keeps.refl none' w4).alloc _), hA, hm.cap.trans PS.out.2.2, hm.low L3.out K3.out.size, (K3.out.over hk2 (fun b hb => L3.out b hb)).alloc _, hps ▸ Row.one (K3.out.over hk2 (fun b hb => L3.out b hb)).size p1⟩)
  have SM := Lib.hid (show Same S1 p1.T from ⟨hfr, fun k q hq => by
    rw [hps, List.getElem?_singleton] at hq
    split at hq
    · cases hq
      exact ⟨rfl, hL, hm.W.trans P3.out.1, hm.H.trans P3.out.2.1, hpx⟩
    · cases hq⟩)
  have hln : S1.ps.length = 1 := by rw [hps]; rfl
  have cg := free_any w4 S1 hr
  rw [hA, hfr] at cg
  have CG := Lib.hid (show Calls Try.prog 22 #[.pointer (some ⟨A, 0, none⟩)] w4 (fun e w' => e = .returned (.int .i64 21) ∧ w' = w4) from cg)
  clear cg
  rw [hm.pb] at O1
  have LN := Lib.hid hln
  clear hln
  clear hm hr hk2 hfr hL hpx hps hA CF L3 K3 P3 PS
  generalize p1.T = T at *
  go_wp2_with fail
  refine CG.out.mono ?_
  rintro e w4 ⟨rfl, rfl⟩
  clear CG
  go_wp2_with fail
  go_loopw [12, 72] (fun l cnt wr => ∃ (r : Nat) (S : St) (aa : Option Addr) (m cp : Nat), r ≤ n ∧ cnt = .int .i64 r ∧ l = .slice aa m cp ∧ m = r + 1 ∧ S.ps.length = m ∧ Same S T ∧ Fr w A 30 S (.slice aa m cp) wr) (fun _ cnt _ => n - (intOf cnt).toNat)
  case atStart => exact ⟨0, S1, _, _, _, by omega, rfl, rfl, rfl, LN.out, SM.out, O1.out⟩
  case round =>
    clear O1 SM LN S1
    obtain ⟨r, S, aa, m, cp, hr, rfl, rfl, hm, hl, hs, hO⟩ := hrel
    have HH := Lib.hid hO
    have LN := Lib.hid hl
    have SM := Lib.hid hs
    clear hO hl hs
    by_cases hlt : r < n
    · obtain ⟨p', hp⟩ : ∃ p, S.ps[r]? = some p := ⟨_, List.getElem?_eq_getElem (by have := LN.out; omega)⟩
      obtain ⟨-, g, rfl, q0⟩ := HH.out.row.at hp
      have u0 : IntKind.i64.wrap ((m : Int) - 1) = (r : Int) := by rw [wrap_i64 _ (by omega) (by omega)]; omega
      have hrn : (r : Int) < (n : Int) := by omega
      have hrm : (r : Int) < (m : Int) := by omega
      have hr0 : (0 : Int) ≤ (r : Int) := by omega
      have C := Lib.hid (HH.out.snapS SM.out hp (by have := LN.out; omega))
      have HM := Lib.hid hm
      clear hp hm
      go_wp2_with fail
      refine C.out.mono ?_
      rintro e w2 ⟨q, rfl, hS, hS2⟩
      have CC := Lib.hid (hS.calls hS2)
      have S2 := Lib.hid hS2
      have HS := Lib.hid (hS.later ((Keeps.refl none' w2).alloc (.cells #[.pointer (some ⟨q.pb, 0, none⟩)] 26)))
      have hcell : (w2.alloc (.cells #[.pointer (some ⟨q.pb, 0, none⟩)] 26)).cell? ⟨w2.heap.size, 0, none⟩ = some (.pointer (some ⟨q.pb, 0, none⟩)) := by rw [World.cell?_alloc_mark]; rfl
      have HC := Lib.hid hcell
      clear hS hS2 q0 C HH u0 hcell SM
      go_wp2_with fail
      refine CC.out.1.mono ?_
      rintro e w2 ⟨rfl, rfl⟩
      go_wp2_with fail
      refine CC.out.2.mono ?_
      rintro e w2 ⟨rfl, rfl⟩
      clear CC
      go_wp2_with (at_builtin; go_must (refine wpList_append_ptr rfl (.tmp 93) (.tmp 95) rfl w.heap.size (.slice (some ⟨g, 0, none⟩) m cp) S.ps rfl ?e1 w2.heap.size q rfl ?e2 ?e3 ?e4 ?e5))
      case e1 => exact HS.out.row
      case e2 => exact HC.out
      case e3 => have := LN.out; have := HM.out; omega
      case e4 => exact HS.out.keeps.size
      case e5 =>
        intro aa2 cap2 w3 hrow hg
        have F2 := Lib.hid (HS.out.done hrow hg)
        rw [LN.out] at F2 ⊢
        have L2 := Lib.hid (show (S.more q).ps.length = m + 1 by have := LN.out; simp [St.more]; omega)
        clear hrow hg HC HS
        generalize S.more q = S' at *
        go_wp2_with fail
        go_roundw
        case rel => exact ⟨r + 1, S', aa2, m + 1, cap2, by omega, by go_num, rfl, by have := HM.out; omega, L2.out, S2.out, F2.out⟩
        case measure => simp [intOf]; omega
    · obtain rfl : r = n := by omega
      clear hlt hr
      obtain ⟨p, hp⟩ : ∃ p, S.ps[r]? = some p := ⟨_, List.getElem?_eq_getElem (by have := LN.out; omega)⟩
      obtain ⟨-, g, rfl, q0⟩ := HH.out.row.at hp
      have hrm : (r : Int) < (m : Int) := by omega
      have hr0 : (0 : Int) ≤ (r : Int) := by omega
      have hcp : m ≤ cp := HH.out.row.room
      have hrc : (r : Int) ≤ (cp : Int) := by omega
      have hrc2 : r ≤ cp := by omega
      have hcp0 : ¬ cp = 0 := by omega
      have HP := Lib.hid hp
      have CS := Lib.hid (set_shared wr S HH.out.rep r p hp (SM.out.2 r p hp).2.2.1 (SM.out.2 r p hp).2.2.2.1 x y v hx hy hv (by rw [SM.out.1]; omega) (SM.out.shared (by have := LN.out; omega) hp _ _))
      clear hp hcp
      obtain ⟨n, rfl⟩ : ∃ n, n = r := ⟨_, rfl⟩
      by_cases hv9 : v = 9
      · subst hv9
        go_wp2_with fail
        refine CS.out.mono ?_
        rintro e w2 ⟨rfl, S2, p2, hm, hr, hk2, hfr, hpx⟩
        have F2 := Lib.hid (HH.out.step HP.out hm hr hk2)
        have hat : S2.ps[n]? = some p2 := hm.here HP.out
        have hot : ∀ j, j < n → ∃ q, S2.ps[j]? = some q ∧ q.W = 40 ∧ q.H = 40 ∧ px S2 q x y = 9 := by
          intro j hj
          obtain ⟨q, hq⟩ : ∃ q, S.ps[j]? = some q := ⟨_, List.getElem?_eq_getElem (by have := LN.out; omega)⟩
          obtain ⟨-, -, c1, c2, c3⟩ := SM.out.2 j q hq
          refine ⟨q, ?_, c1, c2, (hm.px (by omega) hq x y).trans (c3 x y hx hy)⟩
          rw [hm.ps, List.getElem?_set]
          split
          · omega
          · exact hq
        have c2 := free_any w2 S2 hr
        rw [hm.A, HH.out.A, hfr, (SM.out.2 n p HP.out).2.2.2.2 x y hx hy] at c2
        have e2 : p2.W = 40 ∧ p2.H = 40 := ⟨hm.W.trans (SM.out.2 n p HP.out).2.2.1, hm.H.trans (SM.out.2 n p HP.out).2.2.2.1⟩
        rw [if_pos rfl, SM.out.1] at c2
        have C2 := Lib.hid (show Calls Try.prog 22 #[.pointer (some ⟨A, 0, none⟩)] w2 (fun e w' => e = .returned (.int .i64 21) ∧ w' = w2) from c2)
        have AT := Lib.hid hat
        have OT := Lib.hid hot
        have PX := Lib.hid (And.intro hpx e2)
        clear hm hr hk2 hfr hpx hat hot e2 CS SM c2
        go_wp2_with fail
        refine C2.out.mono ?_
        rintro e w2 ⟨rfl, rfl⟩
        obtain ⟨-, g', hg', q0⟩ := F2.out.row.at AT.out
        cases hg'
        clear C2
        go_wp2_with fail
        go_loopw [119] (fun cnt wr => ∃ j : Nat, j ≤ n ∧ cnt = .int .i64 j ∧ Fr w A 30 S2 (.slice (some ⟨g, 0, none⟩) m cp) wr) (fun cnt _ => n - (intOf cnt).toNat)
        case atStart => exact ⟨0, by omega, rfl, F2.out⟩
        case round =>
          clear q0 F2
          obtain ⟨j, hj, rfl, hO⟩ := hrel
          have F3 := Lib.hid hO
          clear hO
          by_cases hlt : j < n
          · obtain ⟨q, hq, qW, qH, qx⟩ := OT.out j hlt
            obtain ⟨-, g', hg', q0⟩ := F3.out.row.at hq
            cases hg'
            have hjn : (j : Int) < (n : Int) := by omega
            have hj0 : (0 : Int) ≤ (j : Int) := by omega
            have c := at_in wr S2 F3.out.rep j q hq x y (by omega) (by omega)
            rw [qx] at c
            have C := Lib.hid (show Calls Try.prog 14 #[.pointer (some ⟨q.pb, 0, none⟩), .int .i64 (x : Int), .int .i64 (y : Int)] wr (fun e w' => e = .returned (.int .i64 9) ∧ Keeps none' wr w') from c)
            clear c
            clear hq qW qH qx
            go_wp2_with fail
            refine C.out.mono ?_
            rintro e w3 ⟨rfl, hK⟩
            have F4 := Lib.hid (F3.out.later hK)
            clear hK C F3 q0
            go_wp2_with fail
            go_roundw
            case rel => exact ⟨j + 1, by omega, by go_num, F4.out⟩
            case measure => simp [intOf]; omega
          · obtain rfl : j = n := by omega
            obtain ⟨-, g', hg', q0⟩ := F3.out.row.at AT.out
            cases hg'
            have C := at_in wr S2 F3.out.rep j p2 AT.out x y (by have := PX.out.2; omega) (by have := PX.out.2; omega)
            rw [PX.out.1] at C
            have C := Lib.hid C
            go_wp2_with fail
            refine C.out.mono ?_
            rintro e w3 ⟨rfl, hK⟩
            have K := Lib.hid (F3.out.keeps.trans hK (fun _ _ h => h))
            clear hK
            go_wp2_with fail
            go_ret
            exact ⟨rfl, K.out⟩
      · have v9 : ((v : Int) == 9) = false := by simp; omega
        go_wp2_with fail
        refine CS.out.mono ?_
        rintro e w2 ⟨rfl, S2, p2, hm, hr, hk2, hfr, hpx⟩
        have F2 := Lib.hid (HH.out.step HP.out hm hr hk2)
        have hat : S2.ps[n]? = some p2 := hm.here HP.out
        have hot : ∀ j, j < n → ∃ q, S2.ps[j]? = some q ∧ q.W = 40 ∧ q.H = 40 ∧ px S2 q x y = 9 := by
          intro j hj
          obtain ⟨q, hq⟩ : ∃ q, S.ps[j]? = some q := ⟨_, List.getElem?_eq_getElem (by have := LN.out; omega)⟩
          obtain ⟨-, -, c1, c2, c3⟩ := SM.out.2 j q hq
          refine ⟨q, ?_, c1, c2, (hm.px (by omega) hq x y).trans (c3 x y hx hy)⟩
          rw [hm.ps, List.getElem?_set]
          split
          · omega
          · exact hq
        have c2 := free_any w2 S2 hr
        rw [hm.A, HH.out.A, hfr, (SM.out.2 n p HP.out).2.2.2.2 x y hx hy] at c2
        have e2 : p2.W = 40 ∧ p2.H = 40 := ⟨hm.W.trans (SM.out.2 n p HP.out).2.2.1, hm.H.trans (SM.out.2 n p HP.out).2.2.2.1⟩
        rw [if_neg (fun e => hv9 e.symm), SM.out.1] at c2
        have C2 := Lib.hid (show Calls Try.prog 22 #[.pointer (some ⟨A, 0, none⟩)] w2 (fun e w' => e = .returned (.int .i64 20) ∧ w' = w2) from c2)
        have AT := Lib.hid hat
        have OT := Lib.hid hot
        have PX := Lib.hid (And.intro hpx e2)
        clear hm hr hk2 hfr hpx hat hot e2 CS SM c2
        go_wp2_with fail
        refine C2.out.mono ?_
        rintro e w2 ⟨rfl, rfl⟩
        obtain ⟨-, g', hg', q0⟩ := F2.out.row.at AT.out
        cases hg'
        clear C2
        go_wp2_with fail
        go_loopw [119] (fun cnt wr => ∃ j : Nat, j ≤ n ∧ cnt = .int .i64 j ∧ Fr w A 30 S2 (.slice (some ⟨g, 0, none⟩) m cp) wr) (fun cnt _ => n - (intOf cnt).toNat)
        case atStart => exact ⟨0, by omega, rfl, F2.out⟩
        case round =>
          clear q0 F2
          obtain ⟨j, hj, rfl, hO⟩ := hrel
          have F3 := Lib.hid hO
          clear hO
          by_cases hlt : j < n
          · obtain ⟨q, hq, qW, qH, qx⟩ := OT.out j hlt
            obtain ⟨-, g', hg', q0⟩ := F3.out.row.at hq
            cases hg'
            have hjn : (j : Int) < (n : Int) := by omega
            have hj0 : (0 : Int) ≤ (j : Int) := by omega
            have c := at_in wr S2 F3.out.rep j q hq x y (by omega) (by omega)
            rw [qx] at c
            have C := Lib.hid (show Calls Try.prog 14 #[.pointer (some ⟨q.pb, 0, none⟩), .int .i64 (x : Int), .int .i64 (y : Int)] wr (fun e w' => e = .returned (.int .i64 9) ∧ Keeps none' wr w') from c)
            clear c
            clear hq qW qH qx
            go_wp2_with fail
            refine C.out.mono ?_
            rintro e w3 ⟨rfl, hK⟩
            have F4 := Lib.hid (F3.out.later hK)
            clear hK C F3 q0
            go_wp2_with fail
            go_roundw
            case rel => exact ⟨j + 1, by omega, by go_num, F4.out⟩
            case measure => simp [intOf]; omega
          · obtain rfl : j = n := by omega
            obtain ⟨-, g', hg', q0⟩ := F3.out.row.at AT.out
            cases hg'
            have C := at_in wr S2 F3.out.rep j p2 AT.out x y (by have := PX.out.2; omega) (by have := PX.out.2; omega)
            rw [PX.out.1] at C
            have C := Lib.hid C
            go_wp2_with fail
            refine C.out.mono ?_
            rintro e w3 ⟨rfl, hK⟩
            have K := Lib.hid (F3.out.keeps.trans hK (fun _ _ h => h))
            clear hK
            go_wp2_with fail
            go_ret
            exact ⟨rfl, K.out⟩
theorem shares_walk (a0 a1 a2 a3 : Int) (w : World) (h0 : -9223372036854775808 ≤ a0 ∧ a0 ≤ 9223372036854775807) (h1 : -9223372036854775808 ≤ a1 ∧ a1 ≤ 9223372036854775807) (h2 : -9223372036854775808 ≤ a2 ∧ a2 ≤ 9223372036854775807) (h3 : -9223372036854775808 ≤ a3 ∧ a3 ≤ 9223372036854775807) :
    Calls Try.prog 7 #[.int .i64 a0, .int .i64 a1, .int .i64 a2, .int .i64 a3] w (Yes w) := by
  by_cases h : 1 ≤ a0 ∧ a0 ≤ 6 ∧ 0 ≤ a1 ∧ a1 < 40 ∧ 0 ≤ a2 ∧ a2 < 40 ∧ 0 ≤ a3 ∧ a3 < 4294967296
  · obtain ⟨n, rfl⟩ := Int.eq_ofNat_of_zero_le (a := a0) (by omega)
    obtain ⟨x, rfl⟩ := Int.eq_ofNat_of_zero_le (a := a1) (by omega)
    obtain ⟨y, rfl⟩ := Int.eq_ofNat_of_zero_le (a := a2) (by omega)
    obtain ⟨v, rfl⟩ := Int.eq_ofNat_of_zero_le (a := a3) (by omega)
    exact shares_good n x y v w (by omega) (by omega) (by omega) (by omega) (by omega)
  · exact shares_bad a0 a1 a2 a3 w h
end Go.Proofs.Ytkafccdbofoepaa
