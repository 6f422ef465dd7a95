/- The walk of JournalDown: ahead of its loop, and the loop. -/
import Derived.Test.YthddjfaeacmlhaaDoorJR
import Derived.Test.YthddjfaeacmlhaaDoorJT
namespace Go.Proofs.YthddjfaeacmlhaaDoor
open Go.RowKit Jr
set_option linter.unusedVariables false

theorem int_bounds3 {n : Int} (h : (Lit.int .i64 n).wf = true) : -9223372036854775808 ≤ n ∧ n ≤ 9223372036854775807 := by
  simp [Lit.wf, IntKind.min, IntKind.max, IntKind.signed, IntKind.bits] at h
  omega
theorem down_out (w : World) (a : Option Addr) (n c : Nat) (x y z : Int) (hF : Fours w) (h : 20 < n ∨ x < 0) : Calls Tryd.prog 6 #[.slice a n c, .int .i64 x, .int .i64 y, .int .i64 z] w (Yes w) := by
  have A := Lib.hid (anchor_any w hF)
  clear hF
  by_cases h0 : 20 < n
  · have t0 : decide ((20 : Int) < n) = true := by simp; omega
    go_enter Tryd.func6, Tryd.ntmps6
    go_wp2_with fail
    refine A.out.mono ?_
    rintro e w1 ⟨rfl, hk⟩
    have HK := Lib.hid hk
    clear hk
    go_wp2_with fail
    go_ret
    exact ⟨rfl, HK.out⟩
  · have t0 : decide ((20 : Int) < n) = false := by simp; omega
    have t1 : decide (x < 0) = true := by simp; omega
    go_enter Tryd.func6, Tryd.ntmps6
    go_wp2_with fail
    refine A.out.mono ?_
    rintro e w1 ⟨rfl, hk⟩
    have HK := Lib.hid hk
    clear hk
    go_wp2_with fail
    go_ret
    exact ⟨rfl, HK.out⟩
/-- JournalDown under way. -/
structure DSt (w wr : World) (R J : Nat) (ls : List (List Nat)) (k : Nat) (D : Option Nat) (m : Re.M) (sz : Nat) (cl dn : Bool) (aa : Option Addr) (n2 cc : Nat) : Prop where
  jn : Jn wr w.heap.size R J D m sz cl
  keeps : Re.Keeps (fun _ => False) w wr
  own : OwnL wr w.heap.size (fun q => q < w.heap.size) aa n2 cc (ls.take n2)
  out : ∀ g, (Value.slice aa n2 cc).ownBlock = some g → ¬ Hold R J D g
  mode : (dn = false ∧ cl = false ∧ n2 = k ∧ Up m ls k ∧ sz = (recs (ls.take k)).length) ∨ (dn = true ∧ cl = true ∧ ∃ t, n2 = t + 1 ∧ t + 1 ≤ k ∧ Fell m ls t)
  short : ∀ p ∈ ls.take n2, p.length ≤ 300 ∧ Byte p
  few : n2 ≤ 20
theorem DSt.below {w wr : World} {R J k sz n2 cc : Nat} {ls : List (List Nat)} {D : Option Nat} {m : Re.M} {cl dn : Bool} {aa : Option Addr} (h : DSt w wr R J ls k D m sz cl dn aa n2 cc) : Below w.heap.size w wr :=
  h.keeps.below (Nat.le_refl _) (fun _ _ h => h)
theorem M_new_ok {cap : Int} (h : 0 ≤ cap) : Still (Re.M.new cap) [] := ⟨rfl, (fun x hx => by cases hx), rfl⟩
theorem first_open : settleM (Re.M.new 20000) (scan []).2 = (0, Re.M.new 20000) := by
  rw [scan_nil]
  simp [settleM, Re.M.new, Re.M.sync, Re.M.spend]
/-- Behind a record and a sync. -/
theorem DSt.carry {w wr W2 : World} {R J k sz n2 cc : Nat} {ls : List (List Nat)} {D D2 : Option Nat} {m m2 : Re.M} {cl dn cl2 : Bool} {sz2 : Nat} {aa : Option Addr} (h : DSt w wr R J ls k D m sz cl dn aa n2 cc) (hj : Jn W2 w.heap.size R J D2 m2 sz2 cl2) (hk : Re.Keeps (Hold R J D) wr W2) (hd : D2 = D ∨ ∃ k, D2 = some k ∧ wr.heap.size ≤ k) :
    Re.Keeps (fun _ => False) w W2 ∧ OwnL W2 w.heap.size (fun q => q < w.heap.size) aa n2 cc (ls.take n2) ∧ ∀ g, (Value.slice aa n2 cc).ownBlock = some g → ¬ Hold R J D2 g :=
  ⟨keeps_none rfl h.keeps h.jn hk, own_carry h.jn h.own h.out hk hd⟩
set_option maxRecDepth 100000 in
set_option maxHeartbeats 6400000 in
theorem down_good (w : World) (a : Option Addr) (n c : Nat) (ls : List (List Nat)) (x : Nat) (y z : Int) (hF : Fours w) (hT : Tx w (fun _ => True) a n c ls) (hn : n ≤ 20) (hx : x < 9223372036854775808) (hy : -9223372036854775808 ≤ y ∧ y ≤ 9223372036854775807) (hz : -9223372036854775808 ≤ z ∧ z ≤ 9223372036854775807) :
    Calls Tryd.prog 6 #[.slice a n c, .int .i64 x, .int .i64 y, .int .i64 z] w (Yes w) := by
  have A := Lib.hid (anchor_any w hF)
  have t0 : decide ((20 : Int) < n) = false := by simp; omega
  have t1 : decide ((x : Int) < 0) = false := by simp
  have HT := Lib.hid hT
  have HF := Lib.hid hF
  have HN := Lib.hid hT.len
  have HY := Lib.hid (And.intro hy hz)
  clear hT hF hy hz
  go_enter Tryd.func6, Tryd.ntmps6
  go_wp2_with fail
  refine A.out.mono ?_
  rintro e w1 ⟨rfl, hk⟩
  have C1 := Lib.hid (Re.new_yes 20000 w1 w.heap.size hk.size (by omega) (by omega))
  have HK1 := Lib.hid hk
  clear hk
  go_wp2_with fail
  refine C1.out.mono ?_
  rintro e w2 ⟨rfl, hr2, hs2, hk2⟩
  obtain ⟨R, hR⟩ : ∃ R, R = w1.heap.size := ⟨_, rfl⟩
  rw [← hR] at hr2 ⊢
  have hb2 : Below w1.heap.size w1 w2 := hk2.below (Nat.le_refl _) (fun _ _ h => h)
  have hb02 := below_more HK1.out hb2 (Nat.le_refl _)
  have C2 := Lib.hid (open_ok w2 w.heap.size R none _ hr2 hb02.size rfl [] rfl (fun x hx => by cases hx) (HF.out.below hb02) _ first_open)
  have HK2 := Lib.hid (And.intro hb02 hr2)
  clear hr2 hs2 hk2 hR hb2 hb02
  go_wp2_with fail
  refine C2.out.mono ?_
  rintro e w3 ⟨a3, c3, J, D3, rfl, hj3, _, hk3, hd3, hJ3⟩
  rw [scan_nil] at hj3 ⊢
  have hk03 := keeps_reel rfl (Re.below_keeps HK2.out.1) HK2.out.2 hk3
  have C3 := Lib.hid (Re.arm_any w3 w.heap.size R D3 _ hj3.reel x (by omega))
  have HJ3 := Lib.hid (And.intro hj3 hk03)
  clear hj3 hk3 hd3 hJ3 hk03
  simp only [List.length_nil]
  go_wp2_with fail
  refine C3.out.mono ?_
  rintro e w4 ⟨rfl, hr4, hk4⟩
  have hj4 : Jn w4 w.heap.size R J D3 ((Re.M.new 20000).arm x) 0 false :=
    ⟨hr4, (hk4.block J HJ3.out.1.lt (fun e => HJ3.out.1.ne e)).trans HJ3.out.1.blk, HJ3.out.1.at_, HJ3.out.1.ne, HJ3.out.1.nd⟩
  have S0 := Lib.hid (show DSt w w4 R J ls 0 D3 ((Re.M.new 20000).arm x) 0 false false none 0 0 from
    ⟨hj4, HJ3.out.2.trans hk4 (fun i hi s => by rw [s] at hi; have := HJ3.out.1.reel.at_; omega), OwnL.nil _ _ _, (fun g e => by cases e), Or.inl ⟨rfl, rfl, rfl, ⟨⟨rfl, (fun x hx => by cases hx), rfl⟩, rfl, rfl⟩, rfl⟩, (fun p hp => by simp at hp), by omega⟩)
  clear hr4 hk4 hj4
  go_wp2_with fail
  go_loopw [13, 14, 49] (fun dv o cnt wr => ∃ (k : Nat) (dn : Bool) (aa : Option Addr) (n2 cc : Nat) (D : Option Nat) (m : Re.M) (sz : Nat) (cl : Bool), k ≤ n ∧ dv = .bool dn ∧ o = .slice aa n2 cc ∧ cnt = .int .i64 k ∧ DSt w wr R J ls k D m sz cl dn aa n2 cc) (fun _ _ cnt _ => n - (intOf cnt).toNat)
  case atStart => exact ⟨0, false, none, 0, 0, D3, _, 0, false, Nat.zero_le _, rfl, rfl, rfl, S0.out⟩
  case round =>
    obtain ⟨k, dn, aa, n2, cc, D, m, sz, cl, hk, rfl, rfl, rfl, hS⟩ := hrel
    have HS := Lib.hid hS
    by_cases hlt : k < n
    · obtain ⟨b, off, p, a', m0, c', eqa, hp, hcell0, hA0, _⟩ := HT.out.at hlt
      have HPA := Lib.hid hA0
      have hA := hA0.below HS.out.below
      have hcell : wr.cell? ⟨b, off + k, none⟩ = some (.slice a' m0 c') := (World.cell?_of_block (w := w) (HS.out.below.block _ (World.block_lt_of_cell? w _ hcell0))).trans hcell0
      subst eqa
      clear hA0 hcell0
      have HP := Lib.hid (And.intro hp (And.intro hA.len hA))
      by_cases hbig : 300 < m0
      · have t2 : decide ((300 : Int) < m0) = true := by simp; omega
        clear hp hA hS
        go_wp2_with fail
        go_ret
        exact ⟨rfl, HS.out.below⟩
      · have t2 : decide ((300 : Int) < m0) = false := by simp; omega
        rcases hS.mode with ⟨rfl, rfl, rfl, hup, hsz⟩ | ⟨rfl, rfl, t, rfl, htk, hfell⟩
        · have hpl : p.length = m0 := HP.out.2.1
          have hshk := HS.out.short
          have hTb := recs_short (fun q hq => (hshk q hq).1)
          have htl : (ls.take n2).length = n2 := by have := HN.out; rw [List.length_take]; omega
          rw [htl] at hTb
          have hsh : ∀ q ∈ ls.take (n2 + 1), q.length ≤ 300 ∧ Byte q := by
            intro q hq
            rw [take_snoc2 hp] at hq
            rcases List.mem_append.1 hq with hq | hq
            · exact hshk q hq
            · simp only [List.mem_singleton] at hq; subst hq; exact ⟨by omega, hA.byte⟩
          have hTc : (recs (ls.take n2)).length ≤ 6160 := by omega
          have hsz2 : sz + (m0 + 8) = (recs (ls.take (n2 + 1))).length := by rw [take_snoc2 hp, recs_snoc, List.length_append, recd_length, hpl, hsz]
          have hby := recs_byte (fit_of (K := 300) (by omega) hsh)
          have hstep := step_model hup hp (by omega) hby
          have HSH := Lib.hid hsh
          have HSZ := Lib.hid hsz2
          have hszb : sz ≤ 6160 := by omega
          have HPW := Lib.hid (show Arg w a' m0 c' p from HPA.out)
          clear hshk hTb hsh hTc hsz2 hby hpl htl hsz
          rcases hstep with ⟨m1, hap, hfe⟩ | ⟨m1, m2, hap, hsy, hfe⟩ | ⟨m1, m2, hap, hsy, hfe⟩
          · have C1 := Lib.hid (jappend_fell wr w.heap.size R J D m m1 sz HS.out.jn HS.out.keeps.size a' m0 c' p HP.out.2.2 (by omega) (HF.out.below HS.out.below) (by omega) hap)
            have HFE := Lib.hid hfe
            clear hp hA hS hup hap hfe
            go_wp2_with fail
            refine C1.out.mono ?_
            rintro e W5 ⟨rfl, D5, hj5, hk5, hd5⟩
            obtain ⟨kp5, ow5, ou5⟩ := HS.out.carry hj5 hk5 hd5
            have C2 := Lib.hid (jsync_closed W5 w.heap.size R J D5 m1 sz hj5)
            have H5 := Lib.hid (And.intro hj5 (And.intro kp5 (And.intro ow5 ou5)))
            clear hj5 hk5 hd5 kp5 ow5 ou5
            go_wp2_with fail
            refine C2.out.mono ?_
            rintro e W6 ⟨rfl, rfl⟩
            obtain ⟨hj6, kp6, ow6, ou6⟩ := H5.out
            obtain ⟨W7, hW7⟩ : ∃ W7, W7 = W6.alloc (.cells #[.slice a' m0 c'] 22) := ⟨_, rfl⟩
            have hb7 : Below W6.heap.size W6 W7 := by rw [hW7]; exact (Below.refl _ _).alloc (Nat.le_refl _) _
            have hb07 := kp6.below (Nat.le_refl _) (fun _ _ h => h)
            have hA7 : Arg W7 a' m0 c' p := (HPW.out.below hb07).below hb7
            have hit : Items W7 (fun q => q < w.heap.size) [.slice a' m0 c'] [p] := Items.one ⟨_, _, _, rfl, hA7, fun ad h0 e => HPW.out.lt ad h0 e⟩
            have hcl : W7.cell? ⟨W6.heap.size, 0, none⟩ = some (.slice a' m0 c') := by rw [hW7]; simp
            have ow7 := ow6.below hb7
            have hj7 := hj6.later hb7
            have kp7 := kp6.trans (Re.below_keeps hb7) (fun i _ h => h)
            have H7 := Lib.hid (And.intro hj7 (And.intro kp7 (And.intro ow7 (And.intro ou6 (And.intro hit hcl)))))
            have HW7 := Lib.hid hW7
            have hs7 : w.heap.size ≤ W7.heap.size := kp7.size
            have hownb : ∀ g, (Value.slice aa n2 cc).ownBlock = some g → w.heap.size ≤ g := by
              obtain ⟨_, vs, hv, _⟩ := ow7
              exact fun g e => (hv.lt g e).1
            have HOB := Lib.hid hownb
            clear hj6 kp6 ow6 ou6 hb7 hb07 hA7 hit hcl ow7 hj7 kp7 hW7 hownb
            go_wp2_with (at_builtin; go_must (rw [← HW7.out]; refine wpList_append_vals rfl (.tmp 72) (.tmp 74) rfl w.heap.size (fun q => q < w.heap.size) aa n2 cc (ls.take n2) rfl H7.out.2.2.1 (some ⟨W6.heap.size, 0, none⟩) 1 1 [p] rfl [.slice a' m0 c'] rfl (by intro e; cases e) H7.out.2.2.2.2.1 ?f5 (by omega) (by omega) hs7 (fun q hq e => by have := HOB.out q e; omega) ?f6))
            case f5 =>
              intro _
              refine ⟨_, _, rfl, fun i v hi => ?_⟩
              cases i with
              | zero => simp only [List.getElem?_cons_zero, Option.some.injEq] at hi; subst hi; exact H7.out.2.2.2.2.2
              | succ i => simp at hi
            case f6 =>
              intro a8 c8 W8 ho8 hg8 hat8
              have hj8 := H7.out.1.grown hg8 H7.out.2.2.2.1
              have kp8 : Re.Keeps (fun _ => False) w W8 := H7.out.2.1.grown hg8 (fun q hq e => by have := HOB.out q e; omega)
              have ou8 : ∀ g, (Value.slice a8 (n2 + 1) c8).ownBlock = some g → ¬ Hold R J D5 g := by
                intro g e hh
                rcases hat8 with e2 | e2
                · exact H7.out.2.2.2.1 g (e2.symm.trans e) hh
                · rw [e2] at e; simp only [Option.some.injEq] at e; have := (H7.out.1.hold_lt hh).1; omega
              have etk : ls.take n2 ++ [p] = ls.take (n2 + 1) := (take_snoc2 HP.out.1).symm
              rw [etk] at ho8
              have X := Lib.hid (show DSt w W8 R J ls (n2 + 1) D5 m1 sz true true a8 (n2 + 1) c8 from ⟨hj8, kp8, ho8, ou8, Or.inr ⟨rfl, rfl, n2, rfl, Nat.le_refl _, HFE.out⟩, HSH.out, by omega⟩)
              clear ho8 hg8 hat8 hj8 kp8 ou8 etk
              go_wp2_with fail
              go_roundw
              case rel => exact ⟨n2 + 1, true, a8, n2 + 1, c8, D5, m1, sz, true, hlt, rfl, rfl, by go_num, X.out⟩
              case measure => simp [intOf]; omega
          · have C1 := Lib.hid (jappend_done wr w.heap.size R J D m m1 sz HS.out.jn HS.out.keeps.size a' m0 c' p HP.out.2.2 (by omega) (HF.out.below HS.out.below) (by omega) hap)
            have HSY := Lib.hid hsy
            have HFE := Lib.hid hfe
            clear hp hA hS hup hap hfe hsy
            go_wp2_with fail
            refine C1.out.mono ?_
            rintro e W5 ⟨rfl, D5, hj5, hk5, hd5⟩
            obtain ⟨kp5, ow5, ou5⟩ := HS.out.carry hj5 hk5 hd5
            have C2 := Lib.hid (jsync_fell W5 w.heap.size R J D5 m1 m2 (sz + (m0 + 8)) hj5 HSY.out)
            have H5 := Lib.hid (And.intro hj5 (And.intro kp5 (And.intro ow5 ou5)))
            clear hj5 hk5 hd5 kp5 ow5 ou5
            go_wp2_with fail
            refine C2.out.mono ?_
            rintro e W6 ⟨rfl, D6, hj6, hk6, hd6⟩
            have kp6 := keeps_none rfl H5.out.2.1 H5.out.1 hk6
            obtain ⟨ow6, ou6⟩ := own_carry H5.out.1 H5.out.2.2.1 H5.out.2.2.2 hk6 hd6
            clear hk6 hd6
            obtain ⟨W7, hW7⟩ : ∃ W7, W7 = W6.alloc (.cells #[.slice a' m0 c'] 22) := ⟨_, rfl⟩
            have hb7 : Below W6.heap.size W6 W7 := by rw [hW7]; exact (Below.refl _ _).alloc (Nat.le_refl _) _
            have hb07 := kp6.below (Nat.le_refl _) (fun _ _ h => h)
            have hA7 : Arg W7 a' m0 c' p := (HPW.out.below hb07).below hb7
            have hit : Items W7 (fun q => q < w.heap.size) [.slice a' m0 c'] [p] := Items.one ⟨_, _, _, rfl, hA7, fun ad h0 e => HPW.out.lt ad h0 e⟩
            have hcl : W7.cell? ⟨W6.heap.size, 0, none⟩ = some (.slice a' m0 c') := by rw [hW7]; simp
            have ow7 := ow6.below hb7
            have hj7 := hj6.later hb7
            have kp7 := kp6.trans (Re.below_keeps hb7) (fun i _ h => h)
            have H7 := Lib.hid (And.intro hj7 (And.intro kp7 (And.intro ow7 (And.intro ou6 (And.intro hit hcl)))))
            have HW7 := Lib.hid hW7
            have hs7 : w.heap.size ≤ W7.heap.size := kp7.size
            have hownb : ∀ g, (Value.slice aa n2 cc).ownBlock = some g → w.heap.size ≤ g := by
              obtain ⟨_, vs, hv, _⟩ := ow7
              exact fun g e => (hv.lt g e).1
            have HOB := Lib.hid hownb
            clear hj6 kp6 ow6 ou6 hb7 hb07 hA7 hit hcl ow7 hj7 kp7 hW7 hownb
            go_wp2_with (at_builtin; go_must (rw [← HW7.out]; refine wpList_append_vals rfl (.tmp 72) (.tmp 74) rfl w.heap.size (fun q => q < w.heap.size) aa n2 cc (ls.take n2) rfl H7.out.2.2.1 (some ⟨W6.heap.size, 0, none⟩) 1 1 [p] rfl [.slice a' m0 c'] rfl (by intro e; cases e) H7.out.2.2.2.2.1 ?f5 (by omega) (by omega) hs7 (fun q hq e => by have := HOB.out q e; omega) ?f6))
            case f5 =>
              intro _
              refine ⟨_, _, rfl, fun i v hi => ?_⟩
              cases i with
              | zero => simp only [List.getElem?_cons_zero, Option.some.injEq] at hi; subst hi; exact H7.out.2.2.2.2.2
              | succ i => simp at hi
            case f6 =>
              intro a8 c8 W8 ho8 hg8 hat8
              have hj8 := H7.out.1.grown hg8 H7.out.2.2.2.1
              have kp8 : Re.Keeps (fun _ => False) w W8 := H7.out.2.1.grown hg8 (fun q hq e => by have := HOB.out q e; omega)
              have ou8 : ∀ g, (Value.slice a8 (n2 + 1) c8).ownBlock = some g → ¬ Hold R J D6 g := by
                intro g e hh
                rcases hat8 with e2 | e2
                · exact H7.out.2.2.2.1 g (e2.symm.trans e) hh
                · rw [e2] at e; simp only [Option.some.injEq] at e; have := (H7.out.1.hold_lt hh).1; omega
              have etk : ls.take n2 ++ [p] = ls.take (n2 + 1) := (take_snoc2 HP.out.1).symm
              rw [etk] at ho8
              have X := Lib.hid (show DSt w W8 R J ls (n2 + 1) D6 m2 (sz + (m0 + 8)) true true a8 (n2 + 1) c8 from ⟨hj8, kp8, ho8, ou8, Or.inr ⟨rfl, rfl, n2, rfl, Nat.le_refl _, HFE.out⟩, HSH.out, by omega⟩)
              clear ho8 hg8 hat8 hj8 kp8 ou8 etk
              go_wp2_with fail
              go_roundw
              case rel => exact ⟨n2 + 1, true, a8, n2 + 1, c8, D6, m2, (sz + (m0 + 8)), true, hlt, rfl, rfl, by go_num, X.out⟩
              case measure => simp [intOf]; omega
          · have C1 := Lib.hid (jappend_done wr w.heap.size R J D m m1 sz HS.out.jn HS.out.keeps.size a' m0 c' p HP.out.2.2 (by omega) (HF.out.below HS.out.below) (by omega) hap)
            have HSY := Lib.hid hsy
            have HFE := Lib.hid hfe
            clear hp hA hS hup hap hfe hsy
            go_wp2_with fail
            refine C1.out.mono ?_
            rintro e W5 ⟨rfl, D5, hj5, hk5, hd5⟩
            obtain ⟨kp5, ow5, ou5⟩ := HS.out.carry hj5 hk5 hd5
            have C2 := Lib.hid (jsync_done W5 w.heap.size R J D5 m1 m2 (sz + (m0 + 8)) hj5 HSY.out)
            have H5 := Lib.hid (And.intro hj5 (And.intro kp5 (And.intro ow5 ou5)))
            clear hj5 hk5 hd5 kp5 ow5 ou5
            go_wp2_with fail
            refine C2.out.mono ?_
            rintro e W6 ⟨rfl, D6, hj6, hk6, hd6⟩
            have kp6 := keeps_none rfl H5.out.2.1 H5.out.1 hk6
            obtain ⟨ow6, ou6⟩ := own_carry H5.out.1 H5.out.2.2.1 H5.out.2.2.2 hk6 hd6
            clear hk6 hd6
            obtain ⟨W7, hW7⟩ : ∃ W7, W7 = W6.alloc (.cells #[.slice a' m0 c'] 22) := ⟨_, rfl⟩
            have hb7 : Below W6.heap.size W6 W7 := by rw [hW7]; exact (Below.refl _ _).alloc (Nat.le_refl _) _
            have hb07 := kp6.below (Nat.le_refl _) (fun _ _ h => h)
            have hA7 : Arg W7 a' m0 c' p := (HPW.out.below hb07).below hb7
            have hit : Items W7 (fun q => q < w.heap.size) [.slice a' m0 c'] [p] := Items.one ⟨_, _, _, rfl, hA7, fun ad h0 e => HPW.out.lt ad h0 e⟩
            have hcl : W7.cell? ⟨W6.heap.size, 0, none⟩ = some (.slice a' m0 c') := by rw [hW7]; simp
            have ow7 := ow6.below hb7
            have hj7 := hj6.later hb7
            have kp7 := kp6.trans (Re.below_keeps hb7) (fun i _ h => h)
            have H7 := Lib.hid (And.intro hj7 (And.intro kp7 (And.intro ow7 (And.intro ou6 (And.intro hit hcl)))))
            have HW7 := Lib.hid hW7
            have hs7 : w.heap.size ≤ W7.heap.size := kp7.size
            have hownb : ∀ g, (Value.slice aa n2 cc).ownBlock = some g → w.heap.size ≤ g := by
              obtain ⟨_, vs, hv, _⟩ := ow7
              exact fun g e => (hv.lt g e).1
            have HOB := Lib.hid hownb
            clear hj6 kp6 ow6 ou6 hb7 hb07 hA7 hit hcl ow7 hj7 kp7 hW7 hownb
            go_wp2_with (at_builtin; go_must (rw [← HW7.out]; refine wpList_append_vals rfl (.tmp 72) (.tmp 74) rfl w.heap.size (fun q => q < w.heap.size) aa n2 cc (ls.take n2) rfl H7.out.2.2.1 (some ⟨W6.heap.size, 0, none⟩) 1 1 [p] rfl [.slice a' m0 c'] rfl (by intro e; cases e) H7.out.2.2.2.2.1 ?f5 (by omega) (by omega) hs7 (fun q hq e => by have := HOB.out q e; omega) ?f6))
            case f5 =>
              intro _
              refine ⟨_, _, rfl, fun i v hi => ?_⟩
              cases i with
              | zero => simp only [List.getElem?_cons_zero, Option.some.injEq] at hi; subst hi; exact H7.out.2.2.2.2.2
              | succ i => simp at hi
            case f6 =>
              intro a8 c8 W8 ho8 hg8 hat8
              have hj8 := H7.out.1.grown hg8 H7.out.2.2.2.1
              have kp8 : Re.Keeps (fun _ => False) w W8 := H7.out.2.1.grown hg8 (fun q hq e => by have := HOB.out q e; omega)
              have ou8 : ∀ g, (Value.slice a8 (n2 + 1) c8).ownBlock = some g → ¬ Hold R J D6 g := by
                intro g e hh
                rcases hat8 with e2 | e2
                · exact H7.out.2.2.2.1 g (e2.symm.trans e) hh
                · rw [e2] at e; simp only [Option.some.injEq] at e; have := (H7.out.1.hold_lt hh).1; omega
              have etk : ls.take n2 ++ [p] = ls.take (n2 + 1) := (take_snoc2 HP.out.1).symm
              rw [etk] at ho8
              have X := Lib.hid (show DSt w W8 R J ls (n2 + 1) D6 m2 (sz + (m0 + 8)) false false a8 (n2 + 1) c8 from ⟨hj8, kp8, ho8, ou8, Or.inl ⟨rfl, rfl, rfl, HFE.out, HSZ.out⟩, HSH.out, by omega⟩)
              clear ho8 hg8 hat8 hj8 kp8 ou8 etk
              go_wp2_with fail
              go_roundw
              case rel => exact ⟨n2 + 1, false, a8, n2 + 1, c8, D6, m2, (sz + (m0 + 8)), false, hlt, rfl, rfl, by go_num, X.out⟩
              case measure => simp [intOf]; omega
        · have C1 := Lib.hid (jappend_closed wr w.heap.size R J D m sz HS.out.jn a' m0 c')
          have C2 := Lib.hid (jsync_closed wr w.heap.size R J D m sz HS.out.jn)
          have HM := Lib.hid (And.intro htk hfell)
          clear hp hA hS htk hfell
          go_wp2_with fail
          refine C1.out.mono ?_
          rintro e w5 ⟨rfl, rfl⟩
          go_wp2_with fail
          refine C2.out.mono ?_
          rintro e w6 ⟨rfl, rfl⟩
          go_wp2_with fail
          go_roundw
          case rel => exact ⟨k + 1, true, aa, t + 1, cc, D, m, sz, true, hlt, rfl, rfl, by go_num, ⟨HS.out.jn, HS.out.keeps, HS.out.own, HS.out.out, Or.inr ⟨rfl, rfl, t, rfl, by have := HM.out.1; omega, HM.out.2⟩, HS.out.short, HS.out.few⟩⟩
          case measure => simp [intOf]; omega
    · obtain rfl : k = n := by omega
      obtain ⟨b, hbx, hbb, hbc, hbl, hscan⟩ := after_mode (m := m) (n2 := n2) (ls := ls) hS.short hS.few (by
        rcases hS.mode with ⟨_, _, e, hu, _⟩ | ⟨_, _, t, e, _, hf⟩
        · left; rw [e]; exact hu
        · exact Or.inr ⟨t, e, hf⟩)
      obtain ⟨s, hs1, hs2, hs3⟩ := hscan y
      have hst1 := crash_still hS.jn.reel.ok hbx hbb y
      have ou0 : ∀ g, (Value.slice aa n2 cc).ownBlock = some g → ¬ RD R D g := fun g e hh => hS.out g e (by rcases hh with hh | hh; exact Or.inl hh; exact Or.inr (Or.inr hh))
      have C1 := Lib.hid (crash_plain wr w.heap.size R D m hS.jn.reel y)
      have H0 := Lib.hid (And.intro hS.jn.reel (And.intro hS.keeps (And.intro hS.own ou0)))
      have hn20 : n2 ≤ 20 := hS.few
      have HSH := Lib.hid hS.short
      rw [hbc] at hst1
      obtain ⟨b1, hb1⟩ : ∃ b1, b1 = b.take (left_ m y) := ⟨_, rfl⟩
      rw [← hb1] at hst1 hs3
      have hb1l : b1.length ≤ 6160 := by rw [hb1, List.length_take]; omega
      obtain ⟨M1, hM1⟩ : ∃ M1, M1 = m.crash y [] := ⟨_, rfl⟩
      rw [← hM1] at hst1 C1
      have HST1 := Lib.hid hst1
      have HS3 := Lib.hid (And.intro hs3 (And.intro hs1 (And.intro hs2 hb1l)))
      clear hS hbx hbb hbc hbl hscan hs1 hs2 hs3 hst1 ou0 hb1 hM1 hb1l
      go_wp2_with fail
      refine C1.out.mono ?_
      rintro e W5 ⟨rfl, hr5, hk5⟩
      have kp5 := keeps_reel rfl H0.out.2.1 H0.out.1 hk5
      obtain ⟨ow5, ou5⟩ := own_reel H0.out.1 H0.out.2.2.1 H0.out.2.2.2 hk5 (Or.inl rfl)
      have C2 := Lib.hid (Re.arm_any W5 w.heap.size R D M1 hr5 z (by have := HY.out.2; omega))
      have H5 := Lib.hid (And.intro hr5 (And.intro kp5 (And.intro ow5 ou5)))
      clear hr5 hk5 kp5 ow5 ou5
      go_wp2_with fail
      refine C2.out.mono ?_
      rintro e W6 ⟨rfl, hr6, hk6⟩
      have hk6 : Re.Keeps (RD R D) W5 W6 := hk6.mono (fun i _ e => Or.inl e)
      have kp6 := keeps_reel rfl H5.out.2.1 H5.out.1 hk6
      obtain ⟨ow6, ou6⟩ := own_reel H5.out.1 H5.out.2.2.1 H5.out.2.2.2 hk6 (Or.inl rfl)
      obtain ⟨M2, hM2⟩ : ∃ M2, M2 = M1.arm z := ⟨_, rfl⟩
      have hst2 : Still M2 b1 := by rw [hM2]; exact arm_still HST1.out.1 z
      have hd2 : M2.down = false := by rw [hM2]; exact HST1.out.2.1
      have hc2 : M2.cap = 20000 := by rw [hM2]; exact HST1.out.2.2.2
      rw [← hM2] at hr6
      obtain ⟨f2, M3, b3, hse, hf01, hst3, hsc3, hc3, _, _⟩ := settle_still hst2 hd2
      have C3 := Lib.hid (open_some W6 w.heap.size R D M2 hr6 kp6.size hd2 b1 hst2 (HF.out.below (kp6.below (Nat.le_refl _) (fun _ _ h => h))) f2 M3 hse)
      have H6 := Lib.hid (And.intro hr6 (And.intro kp6 (And.intro ow6 ou6)))
      have HST3 := Lib.hid (And.intro hst3 (And.intro hsc3 (hc3.trans hc2)))
      clear hr6 hk6 kp6 ow6 ou6 hM2 hst2 hd2 hc2 hse hf01 hst3 hsc3 hc3
      go_wp2_with fail
      refine C3.out.mono ?_
      rintro e W7 ⟨v7, D7, rfl, hr7, hk7, hd7⟩
      have kp7 := keeps_reel rfl H6.out.2.1 H6.out.1 hk7
      obtain ⟨ow7, ou7⟩ := own_reel H6.out.1 H6.out.2.2.1 H6.out.2.2.2 hk7 hd7
      have C4 := Lib.hid (crash_plain W7 w.heap.size R D7 M3 hr7 0)
      have H7 := Lib.hid (And.intro hr7 (And.intro kp7 (And.intro ow7 ou7)))
      clear hr7 hk7 hd7 kp7 ow7 ou7
      go_wp2_with fail
      refine C4.out.mono ?_
      rintro e W8 ⟨rfl, hr8, hk8⟩
      have kp8 := keeps_reel rfl H7.out.2.1 H7.out.1 hk8
      obtain ⟨ow8, ou8⟩ := own_reel H7.out.1 H7.out.2.2.1 H7.out.2.2.2 hk8 (Or.inl rfl)
      obtain ⟨hst4, hd4, hl4, hc4⟩ := crash_zero HST3.out.1
      obtain ⟨M4, hM4⟩ : ∃ M4, M4 = M3.crash 0 [] := ⟨_, rfl⟩
      rw [← hM4] at hst4 hd4 hl4 hc4 hr8
      obtain ⟨f5, M5, b5, hse5, _, hst5, hsc5, hc5, hz5, hneg⟩ := settle_still hst4 hd4
      obtain ⟨rfl, hl5⟩ := hneg (by omega)
      obtain ⟨hd5, hb5⟩ := hz5 rfl
      have C5 := open_ok W8 w.heap.size R D7 M4 hr8 kp8.size hd4 b3 hst4.xs hst4.byte (HF.out.below (kp8.below (Nat.le_refl _) (fun _ _ h => h))) M5 hse5
      have e3 : (scan b3).1 = ls.take s := by rw [HST3.out.2.1]; exact HS3.out.1
      rw [e3] at C5 hb5
      have hsl : (ls.take s).length = s := by rw [List.length_take]; have := HN.out; have h2 := H7.out.2.2.1.1; rw [List.length_take] at h2; have := HS3.out.2.1; omega
      have C5 := Lib.hid C5
      have H8 := Lib.hid (And.intro hr8 (And.intro kp8 (And.intro ow8 ou8)))
      have hEl : (scan b3).2 ≤ 6160 := by rw [HST3.out.2.1]; have := (scan_found HST1.out.1.byte).2.1; have := HS3.out.2.2.2; omega
      have hrl : (recs (ls.take s)).length = (scan b3).2 := by rw [← e3, ← scan_end hst4.byte]
      obtain ⟨m6, m7, ha6, hs7⟩ := more_model (m := M5) (l := recs (ls.take s)) (by rw [hst5.xs, hb5]) hd5 (by omega) (by rw [hc5, hc4, HST3.out.2.2, hrl]; simp only [more, List.length_cons, List.length_nil]; omega)
      obtain ⟨E, hE⟩ : ∃ E, E = (scan b3).2 := ⟨_, rfl⟩
      rw [← hE] at C5 hEl
      have HMO := Lib.hid (And.intro ha6 hs7)
      have HSL := Lib.hid hsl
      clear hr8 hk8 kp8 ow8 ou8 hst4 hd4 hl4 hc4 hse5 hst5 hsc5 hc5 hz5 hneg hl5 hd5 hb5 e3 hsl hrl ha6 hs7 hM4 hE
      go_wp2_with fail
      refine C5.out.mono ?_
      rintro e W9 ⟨a9, c9, J9, D9, rfl, hj9, hT9, hk9, hd9, _⟩
      rw [HSL.out] at hT9 ⊢
      have kp9 := keeps_reel rfl H8.out.2.1 H8.out.1 hk9
      obtain ⟨ow9, _⟩ := own_reel H8.out.1 H8.out.2.2.1 H8.out.2.2.2 hk9 hd9
      have hsn := HS3.out.2.1
      have hsn2 := HS3.out.2.2.1
      have hcap9 := ow9.cap.1
      have hal := ow9.tx.take hsn
      have ett : (ls.take n2).take s = ls.take s := by rw [List.take_take, Nat.min_eq_left hsn]
      rw [ett] at hal
      have hfit3 : ∀ p ∈ ls.take s, p.length ≤ 33554432 := fun p hp => by
        have := (HSH.out p (by rw [← ett] at hp; exact List.mem_of_mem_take hp)).1
        omega
      have CS := sameL_any W9 _ _ _ _ _ _ _ _ _ _ hT9 hal (by omega) (by omega) hfit3 hfit3
      rw [decide_eq_true rfl] at CS
      have CS := Lib.hid CS
      have H9 := Lib.hid (And.intro hj9 kp9)
      have hsc : s ≤ cc := by omega
      have u1 : decide ((n2 : Int) < (s : Int)) = false := by simp; omega
      have u2 : decide ((s : Int) < (n2 : Int) - 1) = false := by simp; omega
      clear hj9 hT9 hk9 hd9 kp9 ow9 hal ett hfit3
      go_wp2_with fail
      refine CS.out.mono ?_
      rintro e W10 ⟨rfl, hb10⟩
      have hj10 := H9.out.1.later hb10
      have kp10 := H9.out.2.trans (Re.below_keeps hb10) (fun i _ h => h)
      obtain ⟨W11, hW11⟩ : ∃ W11, W11 = W10.alloc (.cells #[.int .u8 109, .int .u8 111, .int .u8 114, .int .u8 101] 5 (4, 5)) := ⟨_, rfl⟩
      have hb11 : Below W10.heap.size W10 W11 := by rw [hW11]; exact (Below.refl _ _).alloc (Nat.le_refl _) _
      have K1 := const4 (w := W10) (C := #[.int .u8 109, .int .u8 111, .int .u8 114, .int .u8 101]) rfl rfl
      have hA11 : Arg W11 (some ⟨W10.heap.size, 0, none⟩) 4 4 more := by
        rw [hW11]
        exact ⟨lit_bytes W10 _ more (4, 5) rfl (by decide), Nat.le_refl _, fun e => (by cases e)⟩
      have hj11 := hj10.later hb11
      have kp11 := kp10.trans (Re.below_keeps hb11) (fun i _ h => h)
      have C6 := Lib.hid (jappend_done W11 w.heap.size R J9 D9 M5 m6 E hj11 kp11.size _ _ _ more hA11 (by omega) (HF.out.below (kp11.below (Nat.le_refl _) (fun _ _ h => h))) (by omega) HMO.out.1)
      have H11 := Lib.hid (And.intro hj11 kp11)
      have HW11 := Lib.hid hW11
      clear hb10 hj10 kp10 hb11 hA11 hj11 kp11 hW11
      go_wp2_with fail
      rw [← HW11.out]
      refine C6.out.mono ?_
      rintro e W12 ⟨rfl, D12, hj12, hk12, _⟩
      have kp12 := keeps_none rfl H11.out.2 H11.out.1 hk12
      have C7 := Lib.hid (jsync_done W12 w.heap.size R J9 D12 m6 m7 (E + (4 + 8)) hj12 HMO.out.2)
      have H12 := Lib.hid (And.intro hj12 kp12)
      clear hj12 hk12 kp12
      go_wp2_with fail
      refine C7.out.mono ?_
      rintro e W13 ⟨rfl, D13, _, hk13, _⟩
      have kp13 := keeps_none rfl H12.out.2 H12.out.1 hk13
      have X := Lib.hid (show Yes w (.returned (.bool true)) W13 from ⟨rfl, kp13.below (Nat.le_refl _) (fun _ _ h => h)⟩)
      clear hk13 kp13
      go_wp2_with fail
      go_ret
      exact X.out
theorem down_any (w : World) (a : Option Addr) (n c : Nat) (ls : List (List Nat)) (x y z : Int) (hF : Fours w) (hT : Tx w (fun _ => True) a n c ls) (hx : -9223372036854775808 ≤ x ∧ x ≤ 9223372036854775807) (hy : -9223372036854775808 ≤ y ∧ y ≤ 9223372036854775807) (hz : -9223372036854775808 ≤ z ∧ z ≤ 9223372036854775807) :
    Calls Tryd.prog 6 #[.slice a n c, .int .i64 x, .int .i64 y, .int .i64 z] w (Yes w) := by
  by_cases h : 20 < n ∨ x < 0
  · exact down_out w a n c x y z hF h
  · obtain ⟨x', rfl⟩ := Int.eq_ofNat_of_zero_le (show 0 ≤ x by omega)
    exact down_good w a n c ls x' y z hF hT (by omega) (by omega) hy hz
end Go.Proofs.YthddjfaeacmlhaaDoor
