/- The walk of JournalKeeps. -/
import Derived.Test.YthddjfaeacmlhaaDoorJV
import Derived.Test.YthddjfaeacmlhaaDoorJT
import Derived.Test.YthddjfaeacmlhaaDoorJU
import Derived.Test.YthddjfaeacmlhaaDoorJX
namespace Go.Proofs.YthddjfaeacmlhaaDoor
open Go.RowKit Jr
set_option linter.unusedVariables false

theorem int_bounds4 {n : Int} (h : (Lit.int .i64 n).wf = true) : -9223372036854775808 ≤ n ∧ n ≤ 9223372036854775807 := by
  simp [Lit.wf, IntKind.min, IntKind.max, IntKind.signed, IntKind.bits] at h
  omega
set_option maxRecDepth 100000 in
theorem keeps_out (w : World) (x : Int) (a : Option Addr) (n c : Nat) (hF : Fours w) (h : x < 0 ∨ 5000 < x ∨ 40 < n) : Calls Tryd.prog 5 #[.int .i64 x, .slice a n c] w (Yes w) := by
  have A := Lib.hid (anchor_any w hF)
  clear hF
  by_cases h0 : x < 0
  · have t0 : decide (x < 0) = true := by simp; omega
    go_enter Tryd.func5, Tryd.ntmps5
    go_wp2_with fail
    refine A.out.mono ?_
    rintro e w1 ⟨rfl, hk⟩
    have HK := Lib.hid hk
    clear hk
    go_wp2_with fail
    go_ret
    exact ⟨rfl, HK.out⟩
  · have t0 : decide (x < 0) = false := by simp; omega
    by_cases h1 : 5000 < x
    · have t1 : decide (5000 < x) = true := by simp; omega
      go_enter Tryd.func5, Tryd.ntmps5
      go_wp2_with fail
      refine A.out.mono ?_
      rintro e w1 ⟨rfl, hk⟩
      have HK := Lib.hid hk
      clear hk
      go_wp2_with fail
      go_ret
      exact ⟨rfl, HK.out⟩
    · have t1 : decide (5000 < x) = false := by simp; omega
      have t2 : decide ((40 : Int) < n) = true := by simp; omega
      go_enter Tryd.func5, Tryd.ntmps5
      go_wp2_with fail
      refine A.out.mono ?_
      rintro e w1 ⟨rfl, hk⟩
      have HK := Lib.hid hk
      clear hk
      go_wp2_with fail
      go_ret
      exact ⟨rfl, HK.out⟩
/-- JournalKeeps under way. -/
structure KSt (w wr : World) (R J : Nat) (D : Option Nat) (m : Re.M) (sz : Nat) (cap : Int) (all : List (List Nat)) (sf : Nat) (aa : Option Addr) (n2 cc : Nat) : Prop where
  jn : Jn wr w.heap.size R J D m sz false
  keeps : Re.Keeps (fun _ => False) w wr
  tx : Tx wr (fun q => ¬ Hold R J D q) aa n2 cc all
  has : Has m cap all sf
  sz_ : sz = (recs all).length
theorem KSt.below {w wr : World} {R J sz sf n2 cc : Nat} {D : Option Nat} {m : Re.M} {cap : Int} {all : List (List Nat)} {aa : Option Addr} (h : KSt w wr R J D m sz cap all sf aa n2 cc) : Below w.heap.size w wr :=
  h.keeps.below (Nat.le_refl _) (fun _ _ h => h)
theorem KSt.room {w wr : World} {R J sz sf n2 cc : Nat} {D : Option Nat} {m : Re.M} {cap : Int} {all : List (List Nat)} {aa : Option Addr} (h : KSt w wr R J D m sz cap all sf aa n2 cc) : ((recs all).length : Int) ≤ cap ∧ n2 * 8 ≤ (recs all).length := by
  have h1 := h.jn.reel.ok.len
  rw [has_len h.has, h.has.cap_] at h1
  have h2 := few_recs all
  rw [h.tx.len] at h2
  exact ⟨h1, h2⟩
theorem first_open' (cap : Int) : settleM (Re.M.new cap) (scan []).2 = (0, Re.M.new cap) := by
  rw [scan_nil]
  simp [settleM, Re.M.new, Re.M.sync, Re.M.spend]
/-- A list beside a journal, behind a call. -/
theorem tx_carry {W W2 : World} {B R J sz n c : Nat} {D D2 : Option Nat} {m : Re.M} {cl : Bool} {aa : Option Addr} {ls : List (List Nat)} (hj : Jn W B R J D m sz cl) (ht : Tx W (fun q => ¬ Hold R J D q) aa n c ls)
    (hk : Re.Keeps (Hold R J D) W W2) (hd : D2 = D ∨ ∃ k, D2 = some k ∧ W.heap.size ≤ k) : Tx W2 (fun q => ¬ Hold R J D2 q) aa n c ls := by
  refine ((ht.mono (Q := fun q => ¬ Hold R J D q ∧ q < W.heap.size) (fun q hq h => ⟨h, hq⟩)).keep (fun q hq h => hk.block q hq h.1)).mono ?_
  rintro q _ ⟨h1, h2⟩ (e | e | e)
  · exact h1 (Or.inl e)
  · exact h1 (Or.inr (Or.inl e))
  · rcases hd with e3 | ⟨k, e3, hk3⟩
    · exact h1 (Or.inr (Or.inr (e.trans e3)))
    · rw [e3] at e; simp only [Option.some.injEq] at e; omega
/-- A block that isn't the journal's, behind a call. -/
theorem blk_carry {W W2 : World} {R J : Nat} {D : Option Nat} {O : Nat} {ob : Obj} (hk : Re.Keeps (Hold R J D) W W2) (h : W.heap[O]? = some ob) (hO : ¬ Hold R J D O) : W2.heap[O]? = some ob :=
  (hk.block O (lt_of_block h) hO).trans h
set_option maxRecDepth 100000 in
set_option maxHeartbeats 6400000 in
theorem keeps_good (w : World) (x : Nat) (a : Option Addr) (n c : Nat) (hF : Fours w) (hO : Ops w a n c []) (hx : x ≤ 5000) (hn : n ≤ 40) :
    Calls Tryd.prog 5 #[.int .i64 x, .slice a n c] w (Yes w) := by
  have A := Lib.hid (anchor_any w hF)
  have t0 : decide ((x : Int) < 0) = false := by simp
  have t1 : decide ((5000 : Int) < (x : Int)) = false := by simp; omega
  have t2 : decide ((40 : Int) < n) = false := by simp; omega
  have HO := Lib.hid hO
  have HF := Lib.hid hF
  clear hO hF
  go_enter Tryd.func5, Tryd.ntmps5
  go_wp2_with fail
  refine A.out.mono ?_
  rintro e w1 ⟨rfl, hk⟩
  have C1 := Lib.hid (Re.new_yes x w1 w.heap.size hk.size (by omega) (by omega))
  have HK1 := Lib.hid hk
  clear hk
  go_wp2_with fail
  refine C1.out.mono ?_
  rintro e w2 ⟨rfl, hr2, hs2, hk2⟩
  obtain ⟨R, hR⟩ : ∃ R, R = w1.heap.size := ⟨_, rfl⟩
  rw [← hR] at hr2 ⊢
  have hb2 : Below w1.heap.size w1 w2 := hk2.below (Nat.le_refl _) (fun _ _ h => h)
  have hb02 := below_more HK1.out hb2 (Nat.le_refl _)
  have C2 := Lib.hid (open_ok w2 w.heap.size R none _ hr2 hb02.size rfl [] rfl (fun x hx => by cases hx) (HF.out.below hb02) _ (first_open' x))
  have HK2 := Lib.hid (And.intro hb02 hr2)
  clear hr2 hs2 hk2 hR hb2 hb02
  go_wp2_with fail
  refine C2.out.mono ?_
  rintro e w3 ⟨a3, c3, J, D3, rfl, hj3, _, hk3, hd3, hJ3⟩
  rw [scan_nil] at hj3 ⊢
  have hk03 := keeps_reel rfl (Re.below_keeps HK2.out.1) HK2.out.2 hk3
  have S0 := Lib.hid (show KSt w w3 R J D3 (Re.M.new x) 0 x [] 0 none 0 0 from
    ⟨hj3, hk03, Tx.nil _ _, ⟨rfl, rfl, rfl, (by simp [Re.M.new]), rfl, Nat.le_refl _, fun p hp => by cases hp⟩, rfl⟩)
  clear hj3 hk3 hd3 hJ3 hk03
  simp only [List.length_nil]
  go_wp2_with fail
  go_loopw [6, 9, 10, 55] (fun jv o sv cnt wr => ∃ (k J : Nat) (D : Option Nat) (m : Re.M) (sz : Nat) (all : List (List Nat)) (sf : Nat) (aa : Option Addr) (n2 cc : Nat), k ≤ n ∧ jv = .pointer (some ⟨J, 0, none⟩) ∧ o = .slice aa n2 cc ∧ sv = .int .i64 sf ∧ cnt = .int .i64 k ∧ KSt w wr R J D m sz x all sf aa n2 cc) (fun _ _ _ cnt _ => n - (intOf cnt).toNat)
  case atStart => exact ⟨0, J, D3, _, 0, [], 0, none, 0, 0, Nat.zero_le _, rfl, rfl, rfl, rfl, S0.out⟩
  case round =>
    clear S0 C1 C2
    obtain ⟨k, J, D, m, sz, all, sf, aa, n2, cc, hk, rfl, rfl, rfl, rfl, hS⟩ := hrel
    have HS := Lib.hid hS
    have hroom := hS.room
    clear hS
    by_cases hlt : k < n
    · obtain ⟨b, off, kind, keep, da, dn, dc, ys, rfl, hin⟩ := HO.out.2 k hlt
      obtain ⟨i0, i1, i2, hA, hdc⟩ := hin
      have hkb : ∀ (ad : Addr) (v : Value), w.cell? ad = some v → wr.cell? ad = some v := fun ad v h => (World.cell?_of_block (w := w) (HS.out.below.block _ (World.block_lt_of_cell? w _ h))).trans h
      have j0 := hkb _ _ i0
      have j1 := hkb _ _ i1
      have j2 := hkb _ _ i2
      have HA := Lib.hid (And.intro hA hdc)
      have hkc : k < c := by have := HO.out.1; omega
      clear i0 i1 i2 hA hkb
      obtain ⟨W0, hW0⟩ : ∃ W0, W0 = wr.alloc (.cells #[.int .i64 kind, .int .i64 keep, .slice da dn dc] 41) := ⟨_, rfl⟩
      obtain ⟨OB, hOB⟩ : ∃ OB, OB = wr.heap.size := ⟨_, rfl⟩
      have hb0 : Below wr.heap.size wr W0 := by rw [hW0]; exact (Below.refl _ _).alloc (Nat.le_refl _) _
      have hob : W0.heap[OB]? = some (.cells #[.int .i64 kind, .int .i64 keep, .slice da dn dc] 41 (0, 0)) := by rw [hW0, hOB]; exact heap_alloc_new _ _
      have hoh : ¬ Hold R J D OB := fun h => by have := (HS.out.jn.hold_lt h).1; omega
      have hS0 : KSt w W0 R J D m sz x all sf aa n2 cc := ⟨HS.out.jn.later hb0, HS.out.keeps.trans (Re.below_keeps hb0) (fun i _ h => h), HS.out.tx.below hb0, HS.out.has, HS.out.sz_⟩
      have H0 := Lib.hid (And.intro hS0 (And.intro hob hoh))
      have HW0 := Lib.hid (And.intro hW0 hOB)
      obtain ⟨o0, o1, o2⟩ := jn_cells hob
      clear hW0 hOB hb0 hob hoh hS0
      go_upto_region 16 with (fail)
      rw [← HW0.out.1, ← HW0.out.2]
      clear j0 j1 j2
      by_cases hbig : 300 < dn
      · have t3 : decide ((300 : Int) < dn) = true := by simp; omega
        clear o0 o1
        go_wp2_with fail
        go_ret
        exact ⟨rfl, H0.out.1.below⟩
      · have t3 : decide ((300 : Int) < dn) = false := by simp; omega
        go_upto_region 18 with (fail)
        by_cases k1 : kind = 1
        · subst k1
          clear o1
          have CZ := Lib.hid (jsize_any W0 w.heap.size R J D m sz false H0.out.1.jn)
          have hfit : Fit ys := ⟨by rw [HA.out.1.len]; omega, HA.out.1.byte⟩
          have hyl := HA.out.1.len
          have hszz := H0.out.1.sz_
          have hAW := HA.out.1.below H0.out.1.below
          by_cases hroom2 : (((recs all).length + (ys.length + 8) : Nat) : Int) ≤ (x : Int)
          · obtain ⟨m1, hap, hh1⟩ := has_append H0.out.1.has hfit hroom2
            have C := Lib.hid (jappend_done W0 w.heap.size R J D m m1 sz H0.out.1.jn H0.out.1.keeps.size da dn dc ys hAW (by omega) (HF.out.below H0.out.1.below) (by omega) hap)
            have v1 : decide ((sz : Int) + (dn : Int) + 8 ≤ (x : Int)) = true := by simp; omega
            have HH1 := Lib.hid hh1
            have hsz5 : sz ≤ 5000 := by omega
            clear hap hh1 hfit hszz hAW hroom2
            go_wp2_with fail
            refine CZ.out.mono ?_
            rintro e w9 ⟨rfl, rfl⟩
            go_wp2_with fail
            refine C.out.mono ?_
            rintro e W5 ⟨rfl, D5, hj5, hk5, hd5⟩
            have hblk5 := blk_carry hk5 H0.out.2.1 H0.out.2.2
            obtain ⟨q0, _, q2⟩ := jn_cells hblk5
            have HH5 := Lib.hid (And.intro hj5 (And.intro (keeps_none rfl H0.out.1.keeps H0.out.1.jn hk5) (And.intro (tx_carry H0.out.1.jn H0.out.1.tx hk5 hd5) hblk5)))
            clear hj5 hk5 hd5 o0 o2 hblk5
            have hjH := HH5.out.1
            have hPd : ∀ ad, 0 < dn → da = some ad → ¬ Hold R J D5 ad.block := fun ad h0 e hh => by have := HA.out.1.lt ad h0 e; have := (hjH.hold_lt hh).2; omega
            have hA5 : Arg W5 da dn dc ys := HA.out.1.below (HH5.out.2.1.below (Nat.le_refl _) (fun _ _ h => h))
            have hOBl : OB < W5.heap.size := lt_of_block HH5.out.2.2.2
            have bE : Below W5.heap.size W5 (W5.alloc (.cells #[] 22)) := (Below.refl _ _).alloc (Nat.le_refl _) _
            have bS : Below W5.heap.size W5 (W5.alloc (.cells #[.slice da dn dc] 22)) := (Below.refl _ _).alloc (Nat.le_refl _) _
            have bES : Below W5.heap.size W5 ((W5.alloc (.cells #[] 22)).alloc (.cells #[.slice da dn dc] 22)) := bE.alloc bE.size _
            have bSE : Below W5.heap.size W5 ((W5.alloc (.cells #[.slice da dn dc] 22)).alloc (.cells #[] 22)) := bS.alloc bS.size _
            have A1 := Lib.hid (Anew.new (P := fun q => ¬ Hold R J D5 q) (Below.refl W5.heap.size W5))
            have A2 := Lib.hid ((Anew.new (P := fun q => ¬ Hold R J D5 q) (Below.refl W5.heap.size W5)).alloc (.cells #[.slice da dn dc] 22))
            have A3 := Anew.new (P := fun q => ¬ Hold R J D5 q) bS
            simp only [World.size_alloc] at A3
            have A3 := Lib.hid A3
            have T1 := Lib.hid (From.old HH5.out.2.2.1 bE)
            have T2 := Lib.hid (From.old HH5.out.2.2.1 bES)
            have T3 := Lib.hid (From.old HH5.out.2.2.1 bSE)
            have FN := Lib.hid (fun (w' : World) (hb : Below W5.heap.size W5 w') => From.one (W := W5) (P := fun q => ¬ Hold R J D5 q) (w := w'.alloc (.cells #[.slice da dn dc] 22)) hA5 hPd (hb.alloc hb.size _) (heap_alloc_new _ _))
            have FO := Lib.hid (fun (w' : World) (s : Nat) (hb : Below W5.heap.size W5 w') (hs : w'.heap[s]? = some (.cells #[.slice da dn dc] 22 (0, 0))) => From.one (W := W5) (P := fun q => ¬ Hold R J D5 q) (w := w') hA5 hPd hb hs)
            have S2 : ((W5.alloc (.cells #[] 22)).alloc (.cells #[.slice da dn dc] 22)).heap[W5.heap.size + 1]? = some (.cells #[.slice da dn dc] 22 (0, 0)) := by
              have := heap_alloc_new (W5.alloc (.cells #[] 22)) (.cells #[.slice da dn dc] 22 (0, 0))
              simpa using this
            have S3 : ((W5.alloc (.cells #[.slice da dn dc] 22)).alloc (.cells #[] 22)).heap[W5.heap.size]? = some (.cells #[.slice da dn dc] 22 (0, 0)) :=
              (Below.heap_alloc _ _ _ (by simp)).trans (heap_alloc_new _ _)
            have q2k : ∀ w', Below W5.heap.size W5 w' → w'.cell? ⟨OB, 2, none⟩ = some (.slice da dn dc) := fun w' hb => (World.cell?_of_block (w := W5) (hb.block OB hOBl)).trans q2
            have q2E := q2k _ bE
            have q2S := q2k _ bS
            have q2ES := q2k _ bES
            have q2SE := q2k _ bSE
            have HQ2 := Lib.hid q2k
            have SS := Lib.hid (And.intro S2 S3)
            have hn20 : n2 ≤ 625 := by have := hroom.1; have := hroom.2; omega
            clear hPd hA5 hOBl bE bS bES bSE S2 S3 q2k hjH
            go_upto_region 25 with (fail)
            go_region_law (first
              | (refine step_anew (W := W5) (P := fun q => ¬ Hold R J D5 q) (by rfl) (.tmp 94) (.tmp 95) (by rfl) _ 0 0 [] (by rfl) (by first | exact A1.out | exact A1.out.drew | exact A2.out | exact A2.out.drew | exact A3.out | exact A3.out.drew) aa n2 cc all (by rfl) (by first | exact T1.out | exact T1.out.drew | exact T2.out | exact T2.out.drew | exact T3.out | exact T3.out.drew) (by omega) (by omega) ?_; intro aa5 cap5 w5 ha5 hg5; simp only [Nat.zero_add, List.nil_append] at ha5; have H5 := Lib.hid ha5; have q25 := HQ2.out w5 ha5.below; have G5 := Lib.hid hg5; clear ha5 hg5)
              | (refine step_anew (W := W5) (P := fun q => ¬ Hold R J D5 q) (by rfl) (.tmp 96) (.tmp 99) (by rfl) aa5 n2 cap5 all (by rfl) (by first | exact H5.out | exact H5.out.drew | exact H5.out.alloc _ | exact (H5.out.alloc _).drew) _ 1 1 [ys] (by rfl) (by first | exact FN.out _ H5.out.below | exact (FN.out _ H5.out.below).drew | exact FO.out _ _ H5.out.below ((G5.out.block _ (by first | (simp; done) | (simp; omega)) (by simp [Value.ownBlock])).trans SS.out.1) | exact FO.out _ _ H5.out.below ((G5.out.block _ (by first | (simp; done) | (simp; omega)) (by simp [Value.ownBlock])).trans SS.out.2)) (by omega) (by omega) ?_; intro aa8 cap8 w8 ha8 hg8; have H8 := Lib.hid ha8; clear ha8 hg8))
            all_goals
              have hj8 := HH5.out.1.later H8.out.below
              have hbl8 := (H8.out.below.block OB (lt_of_block HH5.out.2.2.2)).trans HH5.out.2.2.2
              have q08 := (jn_cells hbl8).1
              have HK := Lib.hid (show KSt w w8 R J D5 m1 (sz + (dn + 8)) x (all ++ [ys]) sf aa8 (n2 + 1) cap8 from
                ⟨hj8, HH5.out.2.1.trans (Re.below_keeps H8.out.below) (fun i _ h => h), H8.out.own.tx.mono (fun q _ h hh => by
                  rcases h with h | h
                  · have := (HH5.out.1.hold_lt hh).1; omega
                  · exact h.2 hh), HH1.out, by rw [recs_snoc, List.length_append, recd_length, H0.out.1.sz_, HA.out.1.len]⟩)
              clear hj8 hbl8 q2E q2S q2ES q2SE q25 q2 q0
              have CSf := Lib.hid (Re.safe_any w8 w.heap.size R D5 m1 HK.out.jn.reel)
              have CSz := Lib.hid (Re.size_any w8 w.heap.size R D5 m1 HK.out.jn.reel)
              have hle : decide (((m1.xs.length : Nat) : Int) < m1.safe) = false := by have := HK.out.jn.reel.ok.safe1; simp; omega
              go_wp2_with fail
              refine CSf.out.mono ?_
              rintro e w9 ⟨rfl, rfl⟩
              go_wp2_with fail
              refine CSz.out.mono ?_
              rintro e w9 ⟨rfl, rfl⟩
              go_wp2_with fail
              go_roundw
              case rel => exact ⟨k + 1, J, D5, m1, (sz + (dn + 8)), (all ++ [ys]), sf, aa8, (n2 + 1), cap8, hlt, rfl, rfl, rfl, by go_num, HK.out⟩
              case measure => simp [intOf]; omega
          · have hap := has_full H0.out.1.has hroom2
            have C := Lib.hid (jappend_full W0 w.heap.size R J D m sz H0.out.1.jn H0.out.1.keeps.size da dn dc ys hAW (by omega) (HF.out.below H0.out.1.below) (by omega) hap)
            have v1 : decide ((sz : Int) + (dn : Int) + 8 ≤ (x : Int)) = false := by simp; omega
            have hsz5 : sz ≤ 5000 := by omega
            clear hap hfit hszz hAW hroom2
            go_wp2_with fail
            refine CZ.out.mono ?_
            rintro e w9 ⟨rfl, rfl⟩
            go_wp2_with fail
            refine C.out.mono ?_
            rintro e W5 ⟨rfl, D5, hj5, hk5, hd5⟩
            obtain ⟨q0, _, q2⟩ := jn_cells (blk_carry hk5 H0.out.2.1 H0.out.2.2)
            have HK := Lib.hid (show KSt w W5 R J D5 m sz x all sf aa n2 cc from ⟨hj5, keeps_none rfl H0.out.1.keeps H0.out.1.jn hk5, tx_carry H0.out.1.jn H0.out.1.tx hk5 hd5, H0.out.1.has, H0.out.1.sz_⟩)
            clear hj5 hk5 hd5 o0 o2
            have CSf := Lib.hid (Re.safe_any W5 w.heap.size R D5 m HK.out.jn.reel)
            have CSz := Lib.hid (Re.size_any W5 w.heap.size R D5 m HK.out.jn.reel)
            have hle : decide (((m.xs.length : Nat) : Int) < m.safe) = false := by have := HK.out.jn.reel.ok.safe1; simp; omega
            go_wp2_with fail
            refine CSf.out.mono ?_
            rintro e w9 ⟨rfl, rfl⟩
            go_wp2_with fail
            refine CSz.out.mono ?_
            rintro e w9 ⟨rfl, rfl⟩
            go_wp2_with fail
            go_roundw
            case rel => exact ⟨k + 1, J, D5, m, sz, all, sf, aa, n2, cc, hlt, rfl, rfl, rfl, by go_num, HK.out⟩
            case measure => simp [intOf]; omega
        · by_cases k2 : kind = 2
          · subst k2
            clear o1
            obtain ⟨m1, hms, hh1⟩ := has_sync H0.out.1.has
            have C := Lib.hid (jsync_done W0 w.heap.size R J D m m1 sz H0.out.1.jn hms)
            have HH1 := Lib.hid hh1
            clear hms hh1 o2
            go_wp2_with fail
            refine C.out.mono ?_
            rintro e W5 ⟨rfl, D5, hj5, hk5, hd5⟩
            have q0 := (jn_cells (blk_carry hk5 H0.out.2.1 H0.out.2.2)).1
            have hln := H0.out.1.tx.len
            have hh2 := HH1.out
            rw [hln] at hh2
            have HK := Lib.hid (show KSt w W5 R J D5 m1 sz x all n2 aa n2 cc from ⟨hj5, keeps_none rfl H0.out.1.keeps H0.out.1.jn hk5, tx_carry H0.out.1.jn H0.out.1.tx hk5 hd5, hh2, H0.out.1.sz_⟩)
            clear hj5 hk5 hd5 hln hh2 o0
            have CSf := Lib.hid (Re.safe_any W5 w.heap.size R D5 m1 HK.out.jn.reel)
            have CSz := Lib.hid (Re.size_any W5 w.heap.size R D5 m1 HK.out.jn.reel)
            have hle : decide (((m1.xs.length : Nat) : Int) < m1.safe) = false := by have := HK.out.jn.reel.ok.safe1; simp; omega
            go_wp2_with fail
            refine CSf.out.mono ?_
            rintro e w9 ⟨rfl, rfl⟩
            go_wp2_with fail
            refine CSz.out.mono ?_
            rintro e w9 ⟨rfl, rfl⟩
            go_wp2_with fail
            go_roundw
            case rel => exact ⟨k + 1, J, D5, m1, sz, all, n2, aa, n2, cc, hlt, rfl, rfl, rfl, by go_num, HK.out⟩
            case measure => simp [intOf]; omega
          · by_cases k3 : kind = 3
            · subst k3
              obtain ⟨b1, hst1, hd1, hl1, hc1, hsf, htk, hbl, hnil⟩ := has_crash H0.out.1.has H0.out.1.jn.reel.ok keep ys HA.out.1.byte
              have hAW := HA.out.1.below H0.out.1.below
              have C := Lib.hid (Re.crash_any W0 w.heap.size R D m H0.out.1.jn.reel keep da dn dc (ints ys) hAW.src (fun hp ad e => by
                have h1 := HA.out.1.lt ad hp e
                refine ⟨fun e2 => ?_, fun e2 => ?_⟩
                · have := (H0.out.1.jn.reel.data_lt e2.symm).1; omega
                · have := H0.out.1.jn.reel.at_; omega) hAW.2.1 HA.out.2 (fun e => (hAW.2.2 e).2))
              obtain ⟨M1, hM1⟩ : ∃ M1, M1 = m.crash keep (ints ys) := ⟨_, rfl⟩
              rw [← hM1] at hst1 hd1 hl1 hc1 C
              have hn2l := H0.out.1.tx.len
              have HPL := Lib.hid (And.intro hsf (And.intro htk (And.intro hbl hnil)))
              have HST := Lib.hid (And.intro hst1 (And.intro hd1 (And.intro hl1 hc1)))
              have HN2 := Lib.hid hn2l
              have hsfn : sf ≤ n2 := by have := H0.out.1.has.le; omega
              clear hst1 hd1 hl1 hc1 hsf htk hbl hnil hAW hM1 hn2l
              go_wp2_with fail
              refine C.out.mono ?_
              rintro e W5 ⟨rfl, hr5, hk5⟩
              have hk5 : Re.Keeps (RD R D) W0 W5 := hk5
              have kp5 := keeps_reel rfl H0.out.1.keeps H0.out.1.jn.reel hk5
              have hQ : ∀ q, ¬ Hold R J D q → ¬ RD R D q := fun q h e => h (by rcases e with e | e; exact Or.inl e; exact Or.inr (Or.inr e))
              have tx5 : Tx W5 (fun q => ¬ RD R D q) aa n2 cc all := (H0.out.1.tx.mono (fun q _ h => hQ q h)).keep (fun q hq h => hk5.block q hq h)
              have hob5 := (hk5.block OB (lt_of_block H0.out.2.1) (hQ _ H0.out.2.2)).trans H0.out.2.1
              have CZ := Re.size_any W5 w.heap.size R D M1 hr5
              rw [HST.out.1.xs, ints_length] at CZ
              have CZ := Lib.hid CZ
              have CR := Lib.hid (open_read W5 w.heap.size R D M1 hr5 HST.out.2.1 b1 HST.out.1.xs HST.out.1.byte)
              have H5 := Lib.hid (And.intro hr5 (And.intro kp5 (And.intro tx5 (And.intro hob5 (hQ _ H0.out.2.2)))))
              clear hr5 hk5 kp5 tx5 hob5 hQ
              go_wp2_with fail
              refine CZ.out.mono ?_
              rintro e w9 ⟨rfl, rfl⟩
              go_wp2_with fail
              refine CR.out.mono ?_
              rintro e W6 ⟨rfl, hA6, hb6⟩
              have hbl6 : b1.length ≤ 5000 := by have := HPL.out.2.2.1; omega
              have C6 := docScan_far W5.heap.size W6 _ _ _ b1 hA6 (by omega) (fun ad _ e => by cases e; exact Nat.le_refl _)
              obtain ⟨l, E, hsc⟩ : ∃ l E, scan b1 = (l, E) := ⟨_, _, rfl⟩
              rw [hsc] at C6
              have C6 := Lib.hid C6
              have HSC := Lib.hid hsc
              have HB6 := Lib.hid hb6
              clear hA6 hb6 hsc
              go_wp2_with fail
              refine C6.out.mono ?_
              rintro e W7 ⟨a7, c7, rfl, hT7, hb7⟩
              have hb57 := below_more HB6.out hb7 (Nat.le_refl _)
              have hr7 : Re.Reel W7 w.heap.size R D M1 := H5.out.1.kept (hb57.block _ H5.out.1.lt) (fun k e => hb57.block _ (H5.out.1.data_lt e).2)
              have kp7 := H5.out.2.1.trans (Re.below_keeps hb57) (fun i _ h => h)
              obtain ⟨f5, M5, b5, hse5, _, hst5, hsc5, hc5, hz5, hneg⟩ := settle_still HST.out.1 HST.out.2.1
              obtain ⟨rfl, hl5⟩ := hneg (by rw [HST.out.2.2.1]; omega)
              obtain ⟨hd5, hb5⟩ := hz5 rfl
              have C7 := open_ok W7 w.heap.size R D M1 hr7 kp7.size HST.out.2.1 b1 HST.out.1.xs HST.out.1.byte (HF.out.below (kp7.below (Nat.le_refl _) (fun _ _ h => h))) M5 hse5
              rw [HSC.out] at C7 hb5
              simp only at C7 hb5
              have hfl := (scan_found HST.out.1.byte).1
              have hE1 := scan_end HST.out.1.byte
              rw [HSC.out] at hfl hE1
              simp only at hfl hE1
              have hE2 := (scan_found HST.out.1.byte).2.1
              rw [HSC.out] at hE2
              simp only at hE2
              have hm5x : M5.xs.length = E := by rw [hst5.xs, ints_length, hb5, hE1]
              have hm5s : M5.safe = (E : Int) := by rw [hst5.safe, hb5, hE1]
              have C7 := Lib.hid C7
              have hl8 := few_recs l
              have hL : l.length ≤ 625 := by omega
              have HH5 := Lib.hid (show Has M5 x l l.length from ⟨by rw [hst5.xs, hb5], by rw [List.take_length, hm5s, hE1], hd5, by rw [hl5, HST.out.2.2.1]; decide, by rw [hc5]; exact HST.out.2.2.2, Nat.le_refl _, hfl⟩)
              have HE := Lib.hid (And.intro hE1 (And.intro hm5x hm5s))
              have H7 := Lib.hid (And.intro hr7 (And.intro kp7 (And.intro (H5.out.2.2.1.below hb57) (And.intro (hT7.mono (Q := fun q => W5.heap.size ≤ q) (fun q _ h => by rcases h with h | h; exact Nat.le_trans HB6.out.size h; exact h)) ((hb57.block _ (lt_of_block H5.out.2.2.2.1)).trans H5.out.2.2.2.1)))))
              have HFL := Lib.hid hfl
              clear hT7 hb7 hb57 hr7 kp7 hse5 hst5 hsc5 hc5 hz5 hneg hl5 hd5 hb5 hfl hE1 hE2 hm5x hm5s hl8
              go_wp2_with fail
              refine C7.out.mono ?_
              rintro e W9 ⟨a9, c9, J9, D9, rfl, hj9, hT9, hk9, hd9, hJ9⟩
              have kp9 := keeps_reel rfl H7.out.2.1 H7.out.1 hk9
              have tx9 := H7.out.2.2.1.keep (w' := W9) (fun q hq h => hk9.block q hq h)
              have wt9 := H7.out.2.2.2.1.keep (w' := W9) (fun q hq h => hk9.block q hq (fun e => by
                rcases e with e | e
                · have := H5.out.1.lt; omega
                · have := (H5.out.1.data_lt e.symm).2; omega))
              have hob9 := (hk9.block OB (lt_of_block H7.out.2.2.2.2) H5.out.2.2.2.2).trans H7.out.2.2.2.2
              have hfl33 : ∀ p ∈ l, p.length ≤ 33554432 := fun p hp => by have := (HFL.out p hp).1; omega
              have hfa33 : ∀ p ∈ all, p.length ≤ 33554432 := fun p hp => by have := (H0.out.1.has.fit p hp).1; omega
              have CS1 := Lib.hid (fun nn : Nat => show Calls Tryd.prog 12 #[.slice a9 l.length c9, .slice a7 l.length c7] (W9.drewN nn) (fun e w'' => e = .returned (.bool true) ∧ ∃ q, w'' = (W9.drewN nn).drewN q) from by
                have hb : Below W9.heap.size W9 (W9.drewN nn) := below_drewN (Below.refl _ _) nn
                have k := sameL_quiet (W9.drewN nn) _ _ _ _ _ _ _ _ _ _ (hT9.below hb) (wt9.below hb) (by omega) (by omega) hfl33 hfl33
                rw [decide_eq_true rfl] at k
                exact k)
              have hreel : ∀ w', Below W9.heap.size W9 w' → Re.Reel w' w.heap.size R D9 M5 := fun w' hb => hj9.reel.kept (hb.block _ hj9.reel.lt) (fun k e => hb.block _ (hj9.reel.data_lt e).2)
              have CSZ := Lib.hid (fun nn : Nat => show Calls Tryd.prog 22 #[.pointer (some ⟨R, 0, none⟩)] (W9.drewN nn) (fun e w'' => e = .returned (.int .i64 (E : Nat)) ∧ w'' = W9.drewN nn) from by
                have k := Re.size_any (W9.drewN nn) _ _ _ _ (hreel _ (below_drewN (Below.refl _ _) nn))
                rw [HE.out.2.1] at k
                exact k.mono (fun e w'' h => ⟨h.1, h.2.symm⟩))
              have CSF := Lib.hid (fun nn : Nat => show Calls Tryd.prog 23 #[.pointer (some ⟨R, 0, none⟩)] (W9.drewN nn) (fun e w'' => e = .returned (.int .i64 (E : Nat)) ∧ w'' = W9.drewN nn) from by
                have k := Re.safe_any (W9.drewN nn) _ _ _ _ (hreel _ (below_drewN (Below.refl _ _) nn))
                rw [HE.out.2.2] at k
                exact k.mono (fun e w'' h => ⟨h.1, h.2.symm⟩))
              have hsl : sf ≤ l.length := by have := HPL.out.1; rw [HSC.out] at this; exact this
              have CS2 := Lib.hid (fun nn : Nat => show Calls Tryd.prog 12 #[.slice a9 sf c9, .slice aa sf cc] (W9.drewN nn) (fun e w'' => e = .returned (.bool true) ∧ ∃ q, w'' = (W9.drewN nn).drewN q) from by
                have hb : Below W9.heap.size W9 (W9.drewN nn) := below_drewN (Below.refl _ _) nn
                have htt : l.take sf = all.take sf := by have := HPL.out.2.1; rw [HSC.out] at this; exact this
                have k := sameL_quiet (W9.drewN nn) _ _ _ _ _ _ _ _ _ _ ((hT9.below hb).take hsl) ((tx9.below hb).take hsfn) (by omega) (by omega) (fun p hp => hfl33 p (List.mem_of_mem_take hp)) (fun p hp => hfa33 p (List.mem_of_mem_take hp))
                rw [decide_eq_true htt] at k
                exact k)
              have hc9 : sf ≤ c9 := by have := hT9.2.1; omega
              have hcc : sf ≤ cc := by have := tx9.2.1; omega
              have hLc : l.length ≤ n2 → l.length ≤ cc := fun h => by have := tx9.2.1; omega
              have H9 := Lib.hid (And.intro hj9 (And.intro kp9 (And.intro tx9 (And.intro hT9 hob9))))
              have HR9 := Lib.hid (And.intro hk9 (And.intro H7.out.1.lt hJ9))
              have v1 : decide ((l.length : Int) < (sf : Int)) = false := by simp; omega
              obtain ⟨L, hLe⟩ : ∃ L, L = l.length := ⟨_, rfl⟩
              have HLE := Lib.hid (And.intro hLe (And.intro hfl33 hfa33))
              rw [← hLe] at CS1 v1 hL hLc hsl ⊢
              have hsl2 : ¬ L < sf := by omega
              have hsl3 : (sf : Int) ≤ (L : Int) := by omega
              have h5 := hd9
              clear hj9 hT9 hk9 hd9 hJ9 kp9 tx9 wt9 hob9 hfl33 hfa33 hreel hLe h5
              go_upto_region 35 with (fail)
              go_quiet (first
                | (go_at_call_of 12 (a7); exact Calls.quiet_of (CS1.out _))
                | (go_at_call 22; exact Calls.quiet_of_same (CSZ.out _))
                | (go_at_call 23; exact Calls.quiet_of_same (CSF.out _))
                | (go_at_call_of 12 (sf); exact Calls.quiet_of (CS2.out _)))
              have hbq : Below W9.heap.size W9 (W9.drewN nq) := below_drewN (Below.refl _ _) nq
              obtain ⟨WA, hWA⟩ : ∃ WA, WA = W9.drewN nq := ⟨_, rfl⟩
              rw [← hWA] at hbq ⊢
              clear hWA
              have hjA := H9.out.1.later hbq
              have hobA := (hbq.block _ (lt_of_block H9.out.2.2.2.2)).trans H9.out.2.2.2.2
              obtain ⟨q0, _, q2⟩ := jn_cells hobA
              have txA := H9.out.2.2.1.below hbq
              have lA := H9.out.2.2.2.1.below hbq
              have kpA := H9.out.2.1.trans (Re.below_keeps hbq) (fun i _ h => h)
              have hlL := HLE.out.1
              have HK := Lib.hid (fun (w' : World) (hb : Below WA.heap.size WA w') => show KSt w w' R J9 D9 M5 E x l L a9 L c9 from
                ⟨hjA.later hb, kpA.trans (Re.below_keeps hb) (fun i _ h => h), by
                  have k := (lA.below hb).mono (Q := fun q => ¬ Hold R J9 D9 q) (fun q _ h e => by
                    rcases e with e | e | e
                    · have := HR9.out.2.1; have := h.1; omega
                    · exact h.2.1 e
                    · exact h.2.2 e)
                  rw [← hlL] at k
                  exact k, by rw [hlL]; exact HH5.out, HE.out.1⟩)
              have HT := Lib.hid (And.intro txA lA)
              have v5 : decide ((3 : Int) ≤ 2) = false := by decide
              clear hbq hjA hobA txA lA kpA v1 hsl hsl2 hsl3
              by_cases hdn : dn = 0
              · subst hdn
                have hys : ys = [] := List.eq_nil_of_length_eq_zero HA.out.1.len
                have hnl := HPL.out.2.2.2 hys
                rw [HSC.out] at hnl
                simp only at hnl
                rw [HN2.out, ← hlL] at hnl
                have CS3 := sameL_any WA _ _ _ _ _ _ _ _ _ _ HT.out.2 (HT.out.1.take (k := L) hnl.1) (by omega) (by have := hnl.1; omega) HLE.out.2.1 (fun p hp => HLE.out.2.2 p (List.mem_of_mem_take hp))
                rw [decide_eq_true hnl.2] at CS3
                rw [← hlL] at CS3
                have CS3 := Lib.hid CS3
                have v6 : decide ((n2 : Int) < (L : Int)) = false := by have := hnl.1; simp; omega
                have hLcc := hLc hnl.1
                have hLn : L ≤ n2 := hnl.1
                have hLn2 : ¬ n2 < L := by omega
                have hLn3 : (L : Int) ≤ (n2 : Int) := by omega
                clear hnl hys hlL
                go_wp2_with fail
                refine CS3.out.mono ?_
                rintro e WB ⟨rfl, hbB⟩
                have q0B : WB.cell? ⟨OB, 0, none⟩ = some (.int .i64 3) := (World.cell?_of_block (w := WA) (hbB.block _ (World.block_lt_of_cell? WA _ q0))).trans q0
                have HKB := Lib.hid (HK.out WB hbB)
                clear hbB q0 q2
                go_wp2_with fail
                go_roundw
                case rel => exact ⟨k + 1, J9, D9, M5, E, l, L, a9, L, c9, hlt, rfl, rfl, rfl, by go_num, HKB.out⟩
                case measure => simp [intOf]; omega
              · have u6 : ((dn : Int) == 0) = false := by simpa using hdn
                have u7 : decide ((dn : Int) = 0) = false := by simpa using hdn
                have HKB := Lib.hid (HK.out WA (Below.refl _ _))
                clear hlL
                go_wp2_with fail
                go_roundw
                case rel => exact ⟨k + 1, J9, D9, M5, E, l, L, a9, L, c9, hlt, rfl, rfl, rfl, by go_num, HKB.out⟩
                case measure => simp [intOf]; omega
            · have v1 : (kind == 1) = false := by simpa using k1
              have v2 : (kind == 2) = false := by simpa using k2
              have v3 : (kind == 3) = false := by simpa using k3
              have HK := Lib.hid H0.out.1
              clear o1 o2
              by_cases k4 : kind ≤ 2
              · have v4 : decide (kind ≤ 2) = true := by simpa using k4
                have CSf := Lib.hid (Re.safe_any W0 w.heap.size R D m HK.out.jn.reel)
                have CSz := Lib.hid (Re.size_any W0 w.heap.size R D m HK.out.jn.reel)
                have hle : decide (((m.xs.length : Nat) : Int) < m.safe) = false := by have := HK.out.jn.reel.ok.safe1; simp; omega
                go_wp2_with fail
                refine CSf.out.mono ?_
                rintro e w9 ⟨rfl, rfl⟩
                go_wp2_with fail
                refine CSz.out.mono ?_
                rintro e w9 ⟨rfl, rfl⟩
                go_wp2_with fail
                go_roundw
                case rel => exact ⟨k + 1, J, D, m, sz, all, sf, aa, n2, cc, hlt, rfl, rfl, rfl, by go_num, HK.out⟩
                case measure => simp [intOf]; omega
              · have v4 : decide (kind ≤ 2) = false := by simpa using k4
                go_wp2_with fail
                go_roundw
                case rel => exact ⟨k + 1, J, D, m, sz, all, sf, aa, n2, cc, hlt, rfl, rfl, rfl, by go_num, HK.out⟩
                case measure => simp [intOf]; omega
    · have X := Lib.hid (show Yes w (.returned (.bool true)) wr from ⟨rfl, HS.out.below⟩)
      go_wp2_with fail
      go_ret
      exact X.out
theorem keeps_any (w : World) (x : Int) (a : Option Addr) (n c : Nat) (l : List Op1) (hF : Fours w) (hx : -9223372036854775808 ≤ x ∧ x ≤ 9223372036854775807) (hO : Ops w a n c l) : Calls Tryd.prog 5 #[.int .i64 x, .slice a n c] w (Yes w) := by
  by_cases h : x < 0 ∨ 5000 < x ∨ 40 < n
  · exact keeps_out w x a n c hF h
  · obtain ⟨x', rfl⟩ := Int.eq_ofNat_of_zero_le (show 0 ≤ x by omega)
    exact keeps_good w x' a n c hF ⟨hO.1, hO.2⟩ (by omega) (by omega)
end Go.Proofs.YthddjfaeacmlhaaDoor
