/- The walk of Bytes. -/
import Derived.Test.YtaandnikamnbbaaC
namespace Go.Proofs.Ytaandnikamnbbaa
open Go.RowKit
set_option linter.unusedVariables false

theorem own_at {w : World} {B n c : Nat} {aa : Option Addr} {ds : List Nat} (h : w.ownsRow B 5 1 (.slice aa n c) n (bys ds)) (hp : 0 < n) : ∃ g, aa = some ⟨g, 0, none⟩ ∧ B ≤ g ∧ n ≤ c ∧ ds.length = n ∧ ∀ (j y : Nat), ds[j]? = some y → w.cell? ⟨g, j, none⟩ = some (.int .u8 (y : Int)) := by
  obtain ⟨hl, h2⟩ := h
  rw [bys_length] at hl
  rcases h2 with ⟨_, e2⟩ | ⟨g, cap, cur, e, hB, hh, p1, p2, p3, p4⟩
  · omega
  · cases e
    refine ⟨g, rfl, hB, p1, by omega, fun j y hj => ?_⟩
    have hj2 : (bys ds)[j]? = (cur.toList.take (n * 1))[j]? := by rw [p4]
    have hjl : j < n := by have := (List.getElem?_eq_some_iff.1 hj).1; omega
    unfold bys at hj2
    rw [List.getElem?_take_of_lt (by omega), List.getElem?_map, hj] at hj2
    have hj3 : cur[j]? = some (.int .u8 (y : Int)) := by simpa using hj2.symm
    simp [World.cell?, hh, hj3]
/-- A row of bytes that the call owns, beside which the old memory is as it was. -/
structure Grow (w : World) (v : Value) (out : List Nat) (w' : World) : Prop where
  own : w'.ownsRow w.heap.size 5 1 v out.length (bys out)
  byte : ∀ y ∈ out, y < 256
  old : Below w.heap.size w w'
theorem Grow.later {w w1 w2 : World} {v : Value} {out : List Nat} (h : Grow w v out w1) (hb : Below w1.heap.size w1 w2) : Grow w v out w2 :=
  ⟨own_kept2 h.own (fun g e => hb.block g (own_lt2 h.own g e).2), h.byte, below_more h.old hb (Nat.le_refl _)⟩
theorem Grow.nil (w : World) : Grow w (.slice none 0 0) [] w := ⟨World.ownsRow_nil _ _ _ _, fun y hy => (by cases hy), Below.refl _ _⟩
/-- .. and a block beside it that stays. -/
structure Pinned (w : World) (P : Nat) (ob : Obj) (v : Value) (out : List Nat) (w' : World) : Prop where
  grow : Grow w v out w'
  pin : w'.heap[P]? = some ob
  apart : v.ownBlock ≠ some P
theorem Grow.pinned {w w1 : World} {v : Value} {out : List Nat} (h : Grow w v out w1) (cs : Array Value) (t : TypeId) : Pinned w w1.heap.size (.cells cs t (0, 0)) v out (w1.alloc (.cells cs t)) := by
  refine ⟨h.later ((Below.refl _ _).alloc (Nat.le_refl _) _), heap_alloc_new _ _, fun e => ?_⟩
  have := (own_lt2 h.own _ e).2
  omega
theorem Pinned.lt {w w1 : World} {P : Nat} {ob : Obj} {v : Value} {out : List Nat} (h : Pinned w P ob v out w1) : P < w1.heap.size := lt_of_block h.pin
theorem Pinned.later {w w1 w2 : World} {P : Nat} {ob : Obj} {v : Value} {out : List Nat} (h : Pinned w P ob v out w1) (hb : Below w1.heap.size w1 w2) : Pinned w P ob v out w2 :=
  ⟨h.grow.later hb, (hb.block P h.lt).trans h.pin, h.apart⟩
/-- One byte more. -/
theorem Pinned.push {w w1 W w2 : World} {P N : Nat} {ob : Obj} {v v' : Value} {out : List Nat} {y : Nat} (h : Pinned w P ob v out w1) (hW : Below w1.heap.size w1 W) (hy : y < 256)
    (hown : w2.ownsRow w.heap.size 5 1 v' (out.length + 1) (bys (out ++ [y]))) (hg : W.grownBy w2 v.ownBlock) (hat : v'.ownBlock = v.ownBlock ∨ v'.ownBlock = some N) (hN : w1.heap.size ≤ N) : Pinned w P ob v' (out ++ [y]) w2 := by
  have hP := h.lt
  have hPW : P < W.heap.size := Nat.lt_of_lt_of_le hP hW.size
  refine ⟨⟨by rw [List.length_append]; exact hown, both_lt h.grow.byte (by intro z hz; simp at hz; omega), ?_⟩, ?_, ?_⟩
  · exact grown_below (Nat.le_refl _) (below_more h.grow.old hW (Nat.le_refl _)) hg (fun k e => (own_lt2 h.grow.own k e).1)
  · exact ((hg.block P hPW (fun e => h.apart e.symm)).trans (hW.block P hP)).trans h.pin
  · rcases hat with e | e
    · rw [e]; exact h.apart
    · rw [e]; simp; omega
theorem one_byte (w : World) (y : Nat) (hy : y < 256) : Bytes (w.alloc (.cells #[.int .u8 (y : Nat)] 5)) (some ⟨w.heap.size, 0, none⟩) 1 [y] :=
  lit_bytes w #[.int .u8 (y : Nat)] [y] (0, 0) rfl (by intro x hx; simp at hx; omega)
theorem box_cells {w : World} {P : Nat} {L D : Int} {X : Nat} (h : w.heap[P]? = some (.cells #[.int .i64 L, .int .i64 D, .int .u8 (X : Nat)] 27 (0, 0))) :
    w.cell? ⟨P, 0, none⟩ = some (.int .i64 L) ∧ w.cell? ⟨P, 1, none⟩ = some (.int .i64 D) ∧ w.cell? ⟨P, 2, none⟩ = some (.int .u8 (X : Nat)) := by
  refine ⟨?_, ?_, ?_⟩ <;> simp [World.cell?, h]

/-- What Bytes tells. -/
def Brings (w : World) (most : Int) (ts : List Tok) (e : Ending) (w' : World) : Prop :=
  ∃ aa c, e = .returned (.tuple #[.slice aa (brings most [] ts).2.length c, .int .i64 (brings most [] ts).1]) ∧ Grow w (.slice aa (brings most [] ts).2.length c) (brings most [] ts).2 w'

set_option maxRecDepth 100000 in
set_option maxHeartbeats 1600000 in
theorem bytes_any (w : World) (a : Option Addr) (n c : Nat) (ts : List Tok) (most : Int) (h : Toks w a n ts) (hn : n ≤ 65536) (hm : -9223372036854775808 ≤ most ∧ most ≤ 9223372036854775807) :
    Calls Try.prog 10 #[.slice a n c, .int .i64 most] w (Brings w most ts) := by
  have HT := Lib.hid h
  clear h
  go_enter Try.func10, Try.ntmps10
  go_wp2_with fail
  go_loopw [6, 11] (fun v cnt wr => ∃ (i : Nat) (out : List Nat) (aa : Option Addr) (cap : Nat), i ≤ n ∧ cnt = .int .i64 i ∧ v = .slice aa out.length cap ∧ Grow w (.slice aa out.length cap) out wr ∧ out.length ≤ 258 * i ∧ brings most [] ts = brings most out (ts.drop i)) (fun _ cnt _ => n - (intOf cnt).toNat)
  case atStart => exact ⟨0, [], none, 0, Nat.zero_le _, rfl, rfl, Grow.nil w, Nat.zero_le _, rfl⟩
  case round =>
    obtain ⟨i, out, aa, cap, hi, rfl, rfl, hg, hol, hbr⟩ := hrel
    by_cases hlt : i < n
    · obtain ⟨b, off, t, rfl, ht, hfit, c0, c1, c2⟩ := (HT.out.below (hg.old)).at hlt
      have hbr := hbr.trans (brings_step ht)
      have hbl := brought_length t out
      have hgp := hg.pinned #[.int .i64 t.L, .int .i64 t.D, .int .u8 (t.X : Nat)] 27
      have CS := Lib.hid (stands_any (wr.alloc (.cells #[.int .i64 t.L, .int .i64 t.D, .int .u8 (t.X : Nat)] 27)) t out.length hfit (by omega))
      have hX := hfit.2.2
      have HGP := Lib.hid hgp
      have HBR := Lib.hid hbr
      have HBL := Lib.hid hbl
      have HFIT := Lib.hid hfit
      clear hg hbr hfit ht hgp hbl
      go_wp2_with fail
      refine CS.out.mono ?_
      rintro e w2 ⟨rfl, hb2⟩
      have GP := Lib.hid (HGP.out.later hb2)
      obtain ⟨p0, p1, p2⟩ := box_cells GP.out.pin
      clear hb2 CS HGP
      obtain ⟨L, D, X⟩ := t
      have hw2 : w.heap.size ≤ w2.heap.size := GP.out.grow.old.size
      simp only at p0 p1 p2 hX
      cases hmay : may ⟨L, D, X⟩ out.length
      · have E := Lib.hid (show brings most [] ts = (22, []) by rw [HBR.out, hmay]; rfl)
        clear hmay
        go_wp2_with fail
        go_ret2
        rw [Brings, E.out]
        exact ⟨none, 0, rfl, ⟨World.ownsRow_nil _ _ _ _, fun y hy => (by cases hy), GP.out.grow.old⟩⟩
      · have hbr2 := HBR.out
        rw [hmay] at hbr2
        simp only [Bool.true_eq_false, if_false] at hbr2
        have hmw := may_wide hmay
        have HM := Lib.hid hmay
        clear hmay HBR
        by_cases h0 : L = 0
        · subst h0
          have hw1 : wide ⟨0, D, X⟩ = 1 := rfl
          rw [hw1] at hbr2
          by_cases hbig : most < (out.length : Int) + 1
          · have E := Lib.hid (show brings most [] ts = (24, []) by rw [hbr2, if_pos (by omega)])
            have u : decide (most < (out.length : Int) + 1) = true := by simpa using hbig
            clear hbr2
            go_wp2_with fail
            go_ret2
            rw [Brings, E.out]
            exact ⟨none, 0, rfl, ⟨World.ownsRow_nil _ _ _ _, fun y hy => (by cases hy), GP.out.grow.old⟩⟩
          · have hbr3 : brings most [] ts = brings most (out ++ [X]) (ts.drop (i + 1)) := by rw [hbr2, if_neg (by omega)]; rfl
            have HB3 := Lib.hid hbr3
            have u : decide (most < (out.length : Int) + 1) = false := by simpa using hbig
            clear hbr2 hbr3
            have WA := Lib.hid (show Below w2.heap.size w2 (w2.alloc (.cells #[.int .u8 (X : Nat)] 5)) from (Below.refl _ _).alloc (Nat.le_refl _) _)
            have OB := Lib.hid (one_byte w2 X hX)
            go_wp2_with (at_builtin; go_must (refine wpList_append_text rfl (.tmp 31) (.tmp 34) rfl w.heap.size out.length (.slice aa out.length cap) out rfl ?e1 (some ⟨w2.heap.size, 0, none⟩) 1 1 [X] rfl ?e2 (by intro e; cases e) (by omega) (by omega) ?e3 ?e4))
            case e1 => exact (GP.out.grow.later WA.out).own
            case e2 => exact OB.out
            case e3 => simp; omega
            case e4 =>
              intro aa2 cap2 w3 hown hg hat
              have GP3 := Lib.hid (GP.out.push WA.out hX hown hg hat (Nat.le_succ _))
              obtain ⟨q0, q1, q2⟩ := box_cells GP3.out.pin
              clear hown hg hat GP WA OB p0 p1 p2
              go_wp2_with fail
              go_loopw [6, 38] (fun v cnt wl => v = .slice aa2 (out.length + 1) cap2 ∧ cnt = .int .i64 0 ∧ wl = w3) (fun _ _ _ => 0)
              case atStart => exact ⟨rfl, rfl, rfl⟩
              case round =>
                obtain ⟨rfl, rfl, rfl⟩ := hrel
                go_wp2_with fail
                go_roundw
                case rel => exact ⟨i + 1, out ++ [X], aa2, cap2, hlt, by go_num, by rw [List.length_append]; rfl, by rw [List.length_append]; exact GP3.out.grow, by rw [List.length_append, List.length_singleton]; omega, HB3.out⟩
                case measure => simp [intOf]; omega
        · have hL : 3 ≤ L ∧ L ≤ 258 ∧ 1 ≤ D ∧ D ≤ 32768 ∧ D ≤ (out.length : Nat) := by
            have h := HM.out
            unfold may at h
            simp only [decide_eq_true_eq] at h
            rcases h with h | h
            · exact absurd h h0
            · exact h
          obtain ⟨k, rfl⟩ := Int.eq_ofNat_of_zero_le (show 0 ≤ L by omega)
          obtain ⟨d, rfl⟩ := Int.eq_ofNat_of_zero_le (show 0 ≤ D by omega)
          have hw1 : wide ⟨(k : Int), (d : Int), X⟩ = k := by unfold wide; rw [if_neg h0]; rfl
          have hbt : brought ⟨(k : Int), (d : Int), X⟩ out = copied d k out := by unfold brought; rw [if_neg h0]; rfl
          have hk3 : 3 ≤ k := by omega
          have hk258 : k ≤ 258 := by omega
          have hd1 : 1 ≤ d := by omega
          have hdo : d ≤ out.length := by omega
          have hd3 : d ≤ 32768 := by omega
          rw [hw1] at hbr2
          rw [hbt] at hbr2
          have hk1 : ¬ (k : Int) < 1 := by omega
          have u0 : ((k : Int) == 0) = false := by simp; omega
          clear hw1 hbt HM hmw h0 hL
          by_cases hbig : most < (out.length : Int) + k
          · have E := Lib.hid (show brings most [] ts = (24, []) by rw [hbr2, if_pos (by omega)])
            have u : decide (most < (out.length : Int) + k) = true := by simpa using hbig
            clear hbr2
            go_wp2_with fail
            go_ret2
            rw [Brings, E.out]
            exact ⟨none, 0, rfl, ⟨World.ownsRow_nil _ _ _ _, fun y hy => (by cases hy), GP.out.grow.old⟩⟩
          · have hbr3 : brings most [] ts = brings most (copied d k out) (ts.drop (i + 1)) := by rw [hbr2, if_neg (by omega)]
            have HB3 := Lib.hid hbr3
            have u : decide (most < (out.length : Int) + k) = false := by simpa using hbig
            clear hbr2 hbr3
            obtain ⟨wo, rfl⟩ : ∃ wo : World, wo = wr := ⟨_, rfl⟩
            go_wp2_with fail
            go_loopw [6, 38] (fun v cnt wl => ∃ (j : Nat) (al : Option Addr) (cl : Nat), j ≤ k ∧ cnt = .int .i64 j ∧ v = .slice al (out.length + j) cl ∧ Pinned w wo.heap.size (.cells #[.int .i64 k, .int .i64 d, .int .u8 (X : Nat)] 27 (0, 0)) (.slice al (out.length + j) cl) (copied d j out) wl) (fun _ cnt _ => k - (intOf cnt).toNat)
            case atStart => exact ⟨0, aa, cap, Nat.zero_le _, rfl, rfl, GP.out⟩
            case round =>
              obtain ⟨j, al, cl, hj, rfl, rfl, hp⟩ := hrel
              obtain ⟨q0, q1, q2⟩ := box_cells hp.pin
              by_cases hjl : j < k
              · have hcl := copied_length d j out
                have hown := hp.grow.own
                rw [hcl] at hown
                obtain ⟨g, rfl, hBg, hcap, _, hcells⟩ := own_at hown (by omega)
                obtain ⟨m, hm'⟩ : ∃ m, m = out.length + j - d := ⟨_, rfl⟩
                have hml : m < (copied d j out).length := by omega
                obtain ⟨y, hy⟩ : ∃ y, (copied d j out)[m]? = some y := ⟨_, List.getElem?_eq_getElem hml⟩
                have hyc := hcells m y hy
                have hy256 := hp.grow.byte y (List.mem_of_getElem? hy)
                have hcs : copied d (j + 1) out = copied d j out ++ [y] := by
                  rw [copied, hcl, ← hm', List.getD_eq_getElem?_getD, hy]; rfl
                have hmd : ((out.length : Int) + (j : Int)) - (d : Int) = (m : Int) := by omega
                have hmn : m < out.length + j := by omega
                have HP := Lib.hid hp
                have HCS := Lib.hid (And.intro hcs hown)
                have HCL := Lib.hid hcl
                have WA := Lib.hid (show Below wr.heap.size wr (wr.alloc (.cells #[.int .u8 (y : Nat)] 5)) from (Below.refl _ _).alloc (Nat.le_refl _) _)
                have OB := Lib.hid (one_byte wr y hy256)
                have hwl : w.heap.size ≤ wr.heap.size := hp.grow.old.size
                clear hp hown hcells hy hcs hcl hml hm'
                go_wp2_with (at_builtin; go_must (refine wpList_append_text rfl (.tmp 40) (.tmp 49) rfl w.heap.size (out.length + j) (.slice (some ⟨g, 0, none⟩) (out.length + j) cl) (copied d j out) rfl ?f1 (some ⟨wr.heap.size, 0, none⟩) 1 1 [y] rfl ?f2 (by intro e; cases e) (by omega) (by omega) ?f3 ?f4))
                case f1 => have := (HP.out.grow.later WA.out).own; rwa [HCL.out] at this
                case f2 => exact OB.out
                case f3 => simp; omega
                case f4 =>
                  intro aa2 cap2 w3 hown hg hat
                  have GP3 := Lib.hid (HP.out.push WA.out hy256 (by rw [HCL.out]; exact hown) hg hat (Nat.le_succ _))
                  clear hown hg hat
                  go_wp2_with fail
                  go_roundw
                  case rel => exact ⟨j + 1, aa2, cap2, hjl, by go_num, by rw [Nat.add_assoc], by rw [HCS.out.1]; exact GP3.out⟩
                  case measure => simp [intOf]; omega
              · obtain rfl : j = k := by omega
                have HP := Lib.hid hp
                clear hp
                go_wp2_with fail
                go_roundw
                case rel => exact ⟨i + 1, copied d j out, al, cl, hlt, by go_num, by rw [copied_length], by rw [copied_length]; exact HP.out.grow, by rw [copied_length]; omega, HB3.out⟩
                case measure => simp [intOf]; omega
    · obtain rfl : i = n := by omega
      rw [List.drop_of_length_le (by rw [HT.out.1]; exact Nat.le_refl _), brings_nil] at hbr
      have X := Lib.hid (show Brings w most ts (.returned (.tuple #[.slice aa out.length cap, .int .i64 0])) wr by
        rw [Brings, hbr]
        exact ⟨aa, cap, rfl, hg⟩)
      clear hg hbr
      go_wp2_with fail
      go_ret2
      exact X.out
end Go.Proofs.Ytaandnikamnbbaa
