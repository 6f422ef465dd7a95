/- The walk of Find. -/
import Derived.Test.YtaandnikamnbbaaM
import Derived.Deep.RegionHeld3
namespace Go.Proofs.Ytaandnikamnbbaa
open Go.RowKit
set_option linter.unusedVariables false

theorem at_any (w : World) (P : Nat) (a : Option Addr) (n c : Nat) (ys : List Nat) (g tries p : Nat) (h : Finder w P a n c ys g tries) (hn : n ≤ 16777216) (ht : tries ≤ 128) (hp : p ≤ 16777217) :
    Calls Try.prog 16 #[.pointer (some ⟨P, 0, none⟩), .int .i64 p] w (Tells w (atP ys tries p)) := by
  by_cases hnp : n ≤ p
  · exact at_out w P a n c ys g tries p h hn hp hnp
  · obtain ⟨b, off, y, rfl, _⟩ := h.arg.1.at (i := p) (by omega)
    have e : atP ys tries p = tokOf ys p (seek ys p tries p 0 0) := by unfold atP; rw [if_neg (by rw [h.arg.1.1]; exact hnp)]
    rw [e]
    exact at_in w P b off n c ys g tries p h hn ht (by omega)
/-- A row of tokens that grows, and a block beside it that stays. -/
structure PinT (w : World) (T : Nat) (t : Tok) (v : Value) (ts : List Tok) (w' : World) : Prop where
  grow : GrowT w v ts w'
  pin : w'.heap[T]? = some (.cells #[.int .i64 t.L, .int .i64 t.D, .int .u8 (t.X : Nat)] 27 (0, 0))
  apart : v.ownBlock ≠ some T
  at_ : w.heap.size ≤ T
theorem GrowT.pinT {w w1 : World} {v : Value} {ts : List Tok} (h : GrowT w v ts w1) (t : Tok) : PinT w w1.heap.size t v ts (w1.alloc (.cells #[.int .i64 t.L, .int .i64 t.D, .int .u8 (t.X : Nat)] 27)) := by
  refine ⟨h.later ((Below.refl _ _).alloc (Nat.le_refl _) _), heap_alloc_new _ _, fun e => ?_, h.old.size⟩
  have := (own_lt2 h.own _ e).2
  omega
theorem PinT.lt {w w1 : World} {T : Nat} {t : Tok} {v : Value} {ts : List Tok} (h : PinT w T t v ts w1) : T < w1.heap.size := lt_of_block h.pin
theorem PinT.later {w w1 w2 : World} {T : Nat} {t : Tok} {v : Value} {ts : List Tok} (h : PinT w T t v ts w1) (hb : Below w1.heap.size w1 w2) : PinT w T t v ts w2 :=
  ⟨h.grow.later hb, (hb.block T h.lt).trans h.pin, h.apart, h.at_⟩
theorem PinT.cells {w w1 : World} {T : Nat} {t : Tok} {v : Value} {ts : List Tok} (h : PinT w T t v ts w1) :
    (w1.cell? ⟨T, 0, none⟩ = some (.int .i64 t.L) ∧ w1.cell? ⟨T, 1, none⟩ = some (.int .i64 t.D) ∧ w1.cell? ⟨T, 2, none⟩ = some (.int .u8 (t.X : Nat))) ∧ ∀ i, w1.frozen? ⟨T, i, none⟩ = false := by
  have hp := h.pin
  exact ⟨box_cells hp, fun i => by simp [World.frozen?, hp]⟩
/-- The block is set anew. -/
theorem PinT.set {w w1 : World} {T : Nat} {t : Tok} {v : Value} {ts : List Tok} (h : PinT w T t v ts w1) (u : Tok) :
    PinT w T u v ts (((w1.setCell ⟨T, 0, none⟩ (.int .i64 u.L)).setCell ⟨T, 1, none⟩ (.int .i64 u.D)).setCell ⟨T, 2, none⟩ (.int .u8 (u.X : Nat))) := by
  refine ⟨⟨ownsRow_setCell_other (ownsRow_setCell_other (ownsRow_setCell_other h.grow.own h.apart _) h.apart _) h.apart _, below_set (below_set (below_set h.grow.old h.at_ _) h.at_ _) h.at_ _⟩, ?_, h.apart, h.at_⟩
  rw [block_set (block_set (block_set h.pin _) _) _]
  rfl
/-- One token more. -/
theorem PinT.push {w w1 W w2 : World} {T M : Nat} {t u : Tok} {v v' : Value} {ts : List Tok} (h : PinT w T t v ts w1) (hW : Below w1.heap.size w1 W)
    (hown : w2.ownsRow w.heap.size 27 3 v' (ts.length + 1) (tokvs (ts ++ [u]))) (hg : W.grownBy w2 v.ownBlock) (hat : v'.ownBlock = v.ownBlock ∨ v'.ownBlock = some M) (hM : w1.heap.size ≤ M) : PinT w T t v' (ts ++ [u]) w2 := by
  have hP := h.lt
  refine ⟨h.grow.push hW hown hg, ((hg.block T (Nat.lt_of_lt_of_le hP hW.size) (fun e => h.apart e.symm)).trans (hW.block T hP)).trans h.pin, ?_, h.at_⟩
  rcases hat with e | e
  · rw [e]; exact h.apart
  · rw [e]; simp; omega
/-- The old memory is as it was. -/
def Older (w w' : World) : Prop := Below w.heap.size w w'
/-- What Find goes on from. -/
structure State (ys : List Nat) (tries pat : Nat) (w : World) (n p passed : Nat) (aa : Option Addr) (cap : Nat) (ts : List Tok) (w' : World) : Prop where
  le : p ≤ n
  two : passed ≤ 2
  grow : GrowT w (.slice aa ts.length cap) ts w'
  few : ts.length ≤ p
  rest : ∃ fuel, n ≤ p + fuel ∧ loopF ys tries pat n 0 0 = ts ++ loopF ys tries pat fuel p passed
theorem State.keep {ys : List Nat} {tries pat : Nat} {w w0 w9 : World} {n p passed : Nat} {aa aa2 : Option Addr} {cap cap2 : Nat} {ts : List Tok} {t : Tok} (st : State ys tries pat w n p passed aa cap ts w0) (hyl : ys.length = n) (hlt : p < n) (ht : t = atP ys tries p)
    (hno : ¬ (0 < t.L ∧ passed < pat ∧ t.L < (atP ys tries (p + 1)).L)) (hw : p + wide t ≤ n ∧ 1 ≤ wide t) (hg : GrowT w (.slice aa2 (ts.length + 1) cap2) (ts ++ [t]) w9) : State ys tries pat w n (p + wide t) 0 aa2 cap2 (ts ++ [t]) w9 := by
  obtain ⟨fuel, hfu, hrest⟩ := st.rest
  obtain ⟨fu, rfl⟩ : ∃ fu, fuel = fu + 1 := ⟨fuel - 1, by omega⟩
  have hf := st.few
  refine ⟨hw.1, by omega, by rw [List.length_append]; exact hg, by rw [List.length_append, List.length_singleton]; omega, fu, by omega, ?_⟩
  rw [hrest, loopF, if_neg (by omega), ← ht, if_neg hno, List.append_assoc]
  rfl
theorem State.pass {ys : List Nat} {tries pat : Nat} {w w0 w9 : World} {n p passed : Nat} {aa aa2 : Option Addr} {cap cap2 : Nat} {ts : List Tok} {t : Tok} (st : State ys tries pat w n p passed aa cap ts w0) (hyl : ys.length = n) (hlt : p < n) (ht : t = atP ys tries p)
    (hyes : 0 < t.L ∧ passed < pat ∧ t.L < (atP ys tries (p + 1)).L) (hp : pat ≤ 2) (hg : GrowT w (.slice aa2 (ts.length + 1) cap2) (ts ++ [lit (ys.getD p 0)]) w9) : State ys tries pat w n (p + 1) (passed + 1) aa2 cap2 (ts ++ [lit (ys.getD p 0)]) w9 := by
  obtain ⟨fuel, hfu, hrest⟩ := st.rest
  obtain ⟨fu, rfl⟩ : ∃ fu, fuel = fu + 1 := ⟨fuel - 1, by omega⟩
  have hf := st.few
  refine ⟨by omega, by omega, by rw [List.length_append]; exact hg, by rw [List.length_append, List.length_singleton]; omega, fu, by omega, ?_⟩
  rw [hrest, loopF, if_neg (by omega), ← ht, if_pos hyes, List.append_assoc]
  rfl
theorem length_snoc {α : Type} (ts : List α) (t : α) : (ts ++ [t]).length = ts.length + 1 := by rw [List.length_append]; rfl

set_option maxRecDepth 100000 in
set_option maxHeartbeats 3200000 in
theorem find_some (w : World) (a : Option Addr) (n c : Nat) (ys : List Nat) (effort : Int) (h : Arg w a n c ys) (hn : n ≤ 16777215) (he : 1 ≤ effort ∧ effort ≤ 9223372036854775807) :
    Calls Try.prog 11 #[.slice a n c, .int .i64 effort] w (Finds w (found ys effort)) := by
  obtain ⟨tries, htr⟩ : ∃ tries : Nat, tries = (min effort 128).toNat := ⟨_, rfl⟩
  obtain ⟨pat, hpat⟩ : ∃ pat : Nat, pat = (min (effort - 1) 2).toNat := ⟨_, rfl⟩
  have hfd : found ys effort = loopF ys tries pat n 0 0 := by
    unfold found
    rw [if_neg (by omega), ← htr, ← hpat, h.1.1]
  rw [hfd]
  have hm1 : (if (128 : Int) < effort then (128 : Int) else effort) = (tries : Int) := by split <;> omega
  have hm2 : (if (2 : Int) < effort - 1 then (2 : Int) else effort - 1) = (pat : Int) := by split <;> omega
  have ht128 : tries ≤ 128 := by omega
  have hp2 : pat ≤ 2 := by omega
  have u0 : decide (effort ≤ 0) = false := by simp; omega
  have CB := Lib.hid (backs_any w a n c ys h (by omega))
  have HA := Lib.hid h
  have hyl : ys.length = n := h.1.1
  have HY := Lib.hid (And.intro hyl h.1.2.1)
  clear h hyl hfd htr hpat
  go_enter Try.func11, Try.ntmps11
  go_wp2_with fail
  refine CB.out.mono ?_
  rintro e w1 ⟨g, rfl, hpl, hg, hb1⟩
  have FD := Lib.hid (show Finder (w1.alloc (.cells #[.slice a n c, .slice (some ⟨g, 0, none⟩) n n, .int .i64 (tries : Nat)] 40)) w1.heap.size a n c ys g tries from
    ⟨heap_alloc_new _ _, (HA.out.below hb1).below ((Below.refl _ _).alloc (Nat.le_refl _) _), hpl.later (fun k hk => Below.heap_alloc _ _ _ hk)⟩)
  have B2 := Lib.hid (below_more hb1 ((Below.refl w1.heap.size w1).alloc (Nat.le_refl _) (.cells #[.slice a n c, .slice (some ⟨g, 0, none⟩) n n, .int .i64 (tries : Nat)] 40)) (Nat.le_refl _))
  obtain ⟨P, hP⟩ : ∃ P, P = w1.heap.size := ⟨_, rfl⟩
  clear hpl hb1 hg
  go_wp2_with fail
  rw [← hP] at FD ⊢
  clear hP hm1 hm2
  generalize w1.alloc (.cells #[.slice a n c, .slice (some ⟨g, 0, none⟩) n n, .int .i64 (tries : Nat)] 40) = w2 at *
  go_loopw [7, 8, 9] (fun v pv qv wl => ∃ (p passed : Nat) (aa : Option Addr) (cap : Nat) (ts : List Tok), pv = .int .i64 p ∧ qv = .int .i64 passed ∧ v = .slice aa ts.length cap ∧ State ys tries pat w2 n p passed aa cap ts wl) (fun _ pv _ _ => n - (intOf pv).toNat)
  case atStart => exact ⟨0, 0, none, 0, [], rfl, rfl, rfl, ⟨Nat.zero_le _, by omega, GrowT.nil w2, Nat.zero_le _, n, by omega, rfl⟩⟩
  case round =>
    obtain ⟨p, passed, aa, cap, ts, rfl, rfl, rfl, st⟩ := hrel
    have hpn := st.le
    have hpd := st.two
    have hfew := st.few
    by_cases hlt : p < n
    · have hfd := FD.out.below st.grow.old
      have CA := Lib.hid (at_any wr P a n c ys g tries p hfd (by omega) ht128 (by omega))
      have hfine := atP_fine HY.out.2 tries p (by rw [HY.out.1]; exact hlt)
      have hL0 : 0 ≤ (atP ys tries p).L ∧ (atP ys tries p).L ≤ 258 ∧ p + wide (atP ys tries p) ≤ n ∧ 1 ≤ wide (atP ys tries p) := by
        rcases hfine with e | ⟨L, D, e, hf⟩
        · rw [e]; refine ⟨by simp [lit], by simp [lit], ?_, ?_⟩ <;> rw [wide_lit] <;> omega
        · obtain ⟨f1, f2, f3, f4, f5, f6, f7⟩ := hf
          rw [HY.out.1] at f6
          rw [e]
          refine ⟨by simp only; omega, by simp only; omega, ?_, ?_⟩ <;> rw [wide_copy L D 0 f1] <;> omega
      have hfit : Fits (atP ys tries p) := by
        rcases hfine with e | ⟨L, D, e, hf⟩
        · rw [e]
          refine ⟨by simp [lit], by simp [lit], ?_⟩
          show ys.getD p 0 < 256
          rw [List.getD_eq_getElem?_getD, List.getElem?_eq_getElem (by rw [HY.out.1]; exact hlt)]
          exact HY.out.2 _ (List.getElem_mem _)
        · obtain ⟨f1, f2, f3, f4, f5, f6, f7⟩ := hf
          rw [e]
          exact ⟨by simp only; omega, by simp only; omega, by simp⟩
      obtain ⟨t, ht⟩ : ∃ t, t = atP ys tries p := ⟨_, rfl⟩
      rw [← ht] at CA hL0 hfit
      obtain ⟨l0, l258, hwn, hw1⟩ := hL0
      have HT := Lib.hid ht
      have HST := Lib.hid st
      have HW := Lib.hid (And.intro hwn hw1)
      clear hfine ht hfd st hwn hw1
      obtain ⟨L, D, X⟩ := t
      simp only at l0 l258
      go_wp2_with fail
      refine CA.out.mono ?_
      rintro e w4 ⟨rfl, hb4⟩
      have GT := Lib.hid (show PinT w2 w4.heap.size ⟨L, D, X⟩ (.slice aa ts.length cap) ts (w4.alloc (.cells #[.int .i64 L, .int .i64 D, .int .u8 (X : Nat)] 27)) from (HST.out.grow.later hb4).pinT ⟨L, D, X⟩)
      have hFW : Finder (w4.alloc (.cells #[.int .i64 L, .int .i64 D, .int .u8 (X : Nat)] 27)) P a n c ys g tries := FD.out.below GT.out.grow.old
      have FW := Lib.hid hFW
      clear hb4 hFW CA
      go_wp2_with fail
      generalize w4.alloc (.cells #[.int .i64 L, .int .i64 D, .int .u8 (X : Nat)] 27) = w5 at *
      generalize w4.heap.size = TB at *
      obtain ⟨⟨x0, x1, x2⟩, xf⟩ := GT.out.cells
      simp only at x0 x1 x2
      by_cases h0 : L = 0
      · subst h0
        go_quiet (fail)
        have PT := Lib.hid (GT.out.later (w2 := w5.drewN nq) (below_drewN (Below.refl _ _) _))
        obtain ⟨⟨x0, x1, x2⟩, xf⟩ := PT.out.cells
        simp only at x0 x1 x2
        have WA := Lib.hid (show Below (w5.drewN nq).heap.size (w5.drewN nq) ((w5.drewN nq).alloc (.cells #[.int .i64 0, .int .i64 D, .int .u8 (X : Nat)] 27)) from (Below.refl _ _).alloc (Nat.le_refl _) _)
        have OT := Lib.hid (one_tok (w5.drewN nq) ⟨0, D, X⟩)
        have hwl : w2.heap.size ≤ (w5.drewN nq).heap.size := PT.out.grow.old.size
        clear x0 x1 x2 xf GT FW
        go_wp2_with (at_builtin; go_must (refine wpList_append_tok rfl (.tmp 54) (.tmp 56) rfl w2.heap.size ts.length (.slice aa ts.length cap) ts ⟨0, D, X⟩ rfl ?f1 (w5.drewN nq).heap.size 1 rfl ?f2 (by omega) ?f3 ?f4))
        case f1 => exact (PT.out.grow.later WA.out).own
        case f2 => exact OT.out
        case f3 => first | (simp; omega) | omega | exact Nat.le_succ_of_le hwl
        case f4 =>
          intro aa2 cap2 w9 hown hg hat
          have PP := Lib.hid (PT.out.push WA.out hown hg hat (Nat.le_succ _))
          obtain ⟨⟨z0, z1, z2⟩, _⟩ := PP.out.cells
          simp only at z0 z1 z2
          clear hown hg hat x0 x1 x2 xf
          go_wp2_with fail
          go_roundw
          case rel => exact ⟨p + 1, 0, aa2, cap2, ts ++ [⟨0, D, X⟩], by go_num, rfl, by rw [length_snoc], by have hs := HST.out.keep (t := ⟨0, D, X⟩) HY.out.1 hlt HT.out (fun h => absurd h.1 (by simp)) HW.out PP.out.grow; rw [show wide ⟨0, D, X⟩ = 1 from rfl] at hs; exact hs⟩
          case measure => simp [intOf] <;> omega
      · have hLp : 0 < L := by omega
        have u1 : decide (0 < L) = true := by simpa using hLp
        have hL1 : ¬ L < 1 := by omega
        have HWD := Lib.hid (show ((wide ⟨L, D, X⟩ : Nat) : Int) = L by unfold wide; rw [if_neg h0]; simp only; omega)
        have hL258 : (p : Int) + L ≤ 16777473 := by omega
        by_cases hpp : passed < pat
        · have u2 : decide (passed < pat) = true := by simpa using hpp
          obtain ⟨T2, hT2⟩ : ∃ T2, T2 = atP ys tries (p + 1) := ⟨_, rfl⟩
          have CALL : ∀ w', (w'.cell? ⟨TB, 0, none⟩ = some (.int .i64 L) ∧ Older w5 w') → Calls Try.prog 16 #[.pointer (some ⟨P, 0, none⟩), .int .i64 ((p : Int) + 1)] w' fun e w'' => e = .returned (.agg #[.int .i64 T2.L, .int .i64 T2.D, .int .u8 (T2.X : Nat)]) ∧ (w''.cell? ⟨TB, 0, none⟩ = some (.int .i64 L) ∧ Older w5 w'') := by
            intro w' hS
            have hc := at_any w' P a n c ys g tries (p + 1) (FW.out.below hS.2) (by omega) ht128 (by omega)
            rw [show ((p + 1 : Nat) : Int) = (p : Int) + 1 by omega, ← hT2] at hc
            refine hc.mono ?_
            rintro e w'' ⟨he, hb⟩
            have hTw : TB < w'.heap.size := Nat.lt_of_lt_of_le GT.out.lt hS.2.size
            exact ⟨he, (hb.cell (p := ⟨TB, 0, none⟩) hTw).trans hS.1, below_more hS.2 hb (Nat.le_refl _)⟩
          have CALL := Lib.hid CALL
          have OW := Lib.hid (show Older w5 w5 from Below.refl _ _)
          have OD := Lib.hid (show Older w5 w5.drew from ⟨rfl, rfl, rfl, Nat.le_refl _, fun _ _ => rfl⟩)
          have HT2 := Lib.hid hT2
          obtain ⟨L2, D2, X2⟩ := T2
          have hwp : IntKind.i64.wrap ((p : Int) + 1) = (p : Int) + 1 := wrap_i64 _ (by omega) (by omega)
          have hfd : ∀ w' : World, (Instr.field 27 (.agg #[.int .i64 L2, .int .i64 D2, .int .u8 (X2 : Nat)]) 0).run Try.prog w' = .ok (.int .i64 L2) w' := fun _ => by kernel_rfl
          clear hT2
          by_cases h3 : L < L2
          · have u3 : decide (L < L2) = true := by simpa using h3
            go_region_held3 (fun w' => w'.cell? ⟨TB, 0, none⟩ = some (.int .i64 L) ∧ Older w5 w') (first | exact ⟨x0, OW.out⟩ | exact ⟨x0, OD.out⟩ | (refine ⟨‹_›, ‹_›⟩) | go_keep) (first | (go_at_call 16; refine (CALL.out _ ⟨‹_›, ‹_›⟩).mono ?_; rintro e w' ⟨rfl, hc1, hc2⟩))
            have hby := (FW.out.below hc2).arg
            obtain ⟨b, off, y, rfl, hy, hy256, hcy⟩ := hby.1.at hlt
            have hyd : ys.getD p 0 = y := by rw [List.getD_eq_getElem?_getD, hy]; rfl
            have HYD := Lib.hid (And.intro hyd (GT.out.later hc2))
            obtain ⟨_, xg⟩ := HYD.out.2.cells
            clear hby hy hyd hc2 hwp hfd x0 x1 x2 xf CALL OW OD
            have PT := Lib.hid (HYD.out.2.set (lit y))
            obtain ⟨⟨x0, x1, x2⟩, xf⟩ := PT.out.cells
            simp only [lit] at x0 x1 x2
            have WA := Lib.hid (show Below (((w'.setCell ⟨TB, 0, none⟩ (.int .i64 0)).setCell ⟨TB, 1, none⟩ (.int .i64 0)).setCell ⟨TB, 2, none⟩ (.int .u8 (y : Nat))).heap.size (((w'.setCell ⟨TB, 0, none⟩ (.int .i64 0)).setCell ⟨TB, 1, none⟩ (.int .i64 0)).setCell ⟨TB, 2, none⟩ (.int .u8 (y : Nat))) ((((w'.setCell ⟨TB, 0, none⟩ (.int .i64 0)).setCell ⟨TB, 1, none⟩ (.int .i64 0)).setCell ⟨TB, 2, none⟩ (.int .u8 (y : Nat))).alloc (.cells #[.int .i64 0, .int .i64 0, .int .u8 (y : Nat)] 27)) from (Below.refl _ _).alloc (Nat.le_refl _) _)
            have OT := Lib.hid (show OneTok ((((w'.setCell ⟨TB, 0, none⟩ (.int .i64 0)).setCell ⟨TB, 1, none⟩ (.int .i64 0)).setCell ⟨TB, 2, none⟩ (.int .u8 (y : Nat))).alloc (.cells #[.int .i64 0, .int .i64 0, .int .u8 (y : Nat)] 27)) w'.heap.size 0 (lit y) from by have h := one_tok (((w'.setCell ⟨TB, 0, none⟩ (.int .i64 0)).setCell ⟨TB, 1, none⟩ (.int .i64 0)).setCell ⟨TB, 2, none⟩ (.int .u8 (y : Nat))) (lit y); rw [show (((w'.setCell ⟨TB, 0, none⟩ (.int .i64 0)).setCell ⟨TB, 1, none⟩ (.int .i64 0)).setCell ⟨TB, 2, none⟩ (.int .u8 (y : Nat))).heap.size = w'.heap.size by simp [World.setCell]] at h; exact h)
            have hwl : w2.heap.size ≤ w'.heap.size := (by have := HYD.out.2.grow.old.size; exact this)
            clear GT FW hc1
            go_wp2_with (at_builtin; go_must (refine wpList_append_tok rfl (.tmp 54) (.tmp 56) rfl w2.heap.size ts.length (.slice aa ts.length cap) ts (lit y) rfl ?f1 w'.heap.size 1 rfl ?f2 (by omega) ?f3 ?f4))
            case f1 => exact (PT.out.grow.later WA.out).own
            case f2 => exact OT.out
            case f3 => first | (simp; omega) | omega | exact Nat.le_succ_of_le hwl
            case f4 =>
              intro aa2 cap2 w9 hown hg hat
              have PP := Lib.hid (PT.out.push WA.out hown hg hat (by first | exact Nat.le_succ _ | (simp [World.setCell]) | omega))
              obtain ⟨⟨z0, z1, z2⟩, _⟩ := PP.out.cells
              simp only [lit] at z0 z1 z2
              clear hown hg hat x0 x1 x2 xf
              go_wp2_with fail
              go_roundw
              case rel => exact ⟨p + 1, passed + 1, aa2, cap2, ts ++ [lit y], by go_num, by go_num, by rw [length_snoc], by have hs := HST.out.pass (t := ⟨L, D, X⟩) HY.out.1 hlt HT.out ⟨hLp, hpp, by rw [← HT2.out]; exact h3⟩ hp2 (by rw [HYD.out.1]; exact PP.out.grow); rw [HYD.out.1] at hs; exact hs⟩
              case measure => simp [intOf] <;> omega
          · have u3 : decide (L < L2) = false := by simpa using h3
            go_region_held3 (fun w' => w'.cell? ⟨TB, 0, none⟩ = some (.int .i64 L) ∧ Older w5 w') (first | exact ⟨x0, OW.out⟩ | exact ⟨x0, OD.out⟩ | (refine ⟨‹_›, ‹_›⟩) | go_keep) (first | (go_at_call 16; refine (CALL.out _ ⟨‹_›, ‹_›⟩).mono ?_; rintro e w' ⟨rfl, hc1, hc2⟩))
            have HG := Lib.hid (GT.out.later hc2)
            clear hc1 hc2 hwp hfd x0 x1 x2 xf CALL OW OD
            have PT := Lib.hid (HG.out)
            obtain ⟨⟨x0, x1, x2⟩, xf⟩ := PT.out.cells
            simp only at x0 x1 x2
            have WA := Lib.hid (show Below w'.heap.size w' (w'.alloc (.cells #[.int .i64 L, .int .i64 D, .int .u8 (X : Nat)] 27)) from (Below.refl _ _).alloc (Nat.le_refl _) _)
            have OT := Lib.hid (one_tok w' ⟨L, D, X⟩)
            have hwl : w2.heap.size ≤ w'.heap.size := PT.out.grow.old.size
            clear GT FW
            go_wp2_with (at_builtin; go_must (refine wpList_append_tok rfl (.tmp 54) (.tmp 56) rfl w2.heap.size ts.length (.slice aa ts.length cap) ts ⟨L, D, X⟩ rfl ?f1 w'.heap.size 1 rfl ?f2 (by omega) ?f3 ?f4))
            case f1 => exact (PT.out.grow.later WA.out).own
            case f2 => exact OT.out
            case f3 => first | (simp; omega) | omega | exact Nat.le_succ_of_le hwl
            case f4 =>
              intro aa2 cap2 w9 hown hg hat
              have PP := Lib.hid (PT.out.push WA.out hown hg hat (Nat.le_succ _))
              obtain ⟨⟨z0, z1, z2⟩, _⟩ := PP.out.cells
              simp only at z0 z1 z2
              clear hown hg hat x0 x1 x2 xf
              go_wp2_with fail
              go_roundw
              case rel => exact ⟨p + wide ⟨L, D, X⟩, 0, aa2, cap2, ts ++ [⟨L, D, X⟩], by rw [show ((p + wide ⟨L, D, X⟩ : Nat) : Int) = (p : Int) + L by have := HWD.out; omega], rfl, by rw [length_snoc], HST.out.keep (t := ⟨L, D, X⟩) HY.out.1 hlt HT.out (fun h => by have h := h.2.2; rw [← HT2.out] at h; simp only at h; omega) HW.out PP.out.grow⟩
              case measure => simp [intOf] <;> omega
        · have u2 : decide (passed < pat) = false := by simpa using hpp
          go_quiet (fail)
          have PT := Lib.hid (GT.out.later (w2 := w5.drewN nq) (below_drewN (Below.refl _ _) _))
          obtain ⟨⟨x0, x1, x2⟩, xf⟩ := PT.out.cells
          simp only at x0 x1 x2
          have WA := Lib.hid (show Below (w5.drewN nq).heap.size (w5.drewN nq) ((w5.drewN nq).alloc (.cells #[.int .i64 L, .int .i64 D, .int .u8 (X : Nat)] 27)) from (Below.refl _ _).alloc (Nat.le_refl _) _)
          have OT := Lib.hid (one_tok (w5.drewN nq) ⟨L, D, X⟩)
          have hwl : w2.heap.size ≤ (w5.drewN nq).heap.size := PT.out.grow.old.size
          clear x0 x1 x2 xf GT FW
          go_wp2_with (at_builtin; go_must (refine wpList_append_tok rfl (.tmp 54) (.tmp 56) rfl w2.heap.size ts.length (.slice aa ts.length cap) ts ⟨L, D, X⟩ rfl ?f1 (w5.drewN nq).heap.size 1 rfl ?f2 (by omega) ?f3 ?f4))
          case f1 => exact (PT.out.grow.later WA.out).own
          case f2 => exact OT.out
          case f3 => first | (simp; omega) | omega | exact Nat.le_succ_of_le hwl
          case f4 =>
            intro aa2 cap2 w9 hown hg hat
            have PP := Lib.hid (PT.out.push WA.out hown hg hat (Nat.le_succ _))
            obtain ⟨⟨z0, z1, z2⟩, _⟩ := PP.out.cells
            simp only at z0 z1 z2
            clear hown hg hat x0 x1 x2 xf
            go_wp2_with fail
            go_roundw
            case rel => exact ⟨p + wide ⟨L, D, X⟩, 0, aa2, cap2, ts ++ [⟨L, D, X⟩], by rw [show ((p + wide ⟨L, D, X⟩ : Nat) : Int) = (p : Int) + L by have := HWD.out; omega], rfl, by rw [length_snoc], HST.out.keep (t := ⟨L, D, X⟩) HY.out.1 hlt HT.out (fun h => hpp h.2.1) HW.out PP.out.grow⟩
            case measure => simp [intOf] <;> omega
    · obtain rfl : p = n := by omega
      obtain ⟨fuel, hfu, hrest⟩ := st.rest
      rw [loopF_end ys tries pat fuel p passed (by rw [HY.out.1]; exact Nat.le_refl _), List.append_nil] at hrest
      have hsp := loopF_spell HY.out.2 tries pat p 0 0 (by rw [HY.out.1]; omega) (Nat.zero_le _)
      rw [hrest] at hsp
      have hfit := spell_fits HY.out.2 0 ts hsp (by rw [HY.out.1]; omega)
      obtain ⟨tk1, tk2⟩ := st.grow.toks hfit
      have X := Lib.hid (show Finds w (loopF ys tries pat p 0 0) (.returned (.slice aa ts.length cap)) wr from by
        rw [hrest]
        exact ⟨aa, cap, rfl, tk1, fun x hx => Nat.le_trans B2.out.size (tk2 x hx), below_more B2.out st.grow.old (Nat.le_refl _)⟩)
      clear hrest hsp hfit tk1 tk2 st hfu
      go_wp2_with fail
      go_ret
      exact X.out
end Go.Proofs.Ytaandnikamnbbaa
