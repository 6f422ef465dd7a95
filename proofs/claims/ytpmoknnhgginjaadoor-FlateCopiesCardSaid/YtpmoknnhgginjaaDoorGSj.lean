/- Texts of a layer, one behind the other. -/
import Derived.Test.YtpmoknnhgginjaaDoorGSi
import Derived.Test.YtpmoknnhgginjaaDoorRows
import Derived.ProofKit
import Derived.LaidMore
import Derived.OpenShut
import Derived.ChangeOld
import Derived.Below
import Derived.Deep.Matrix
import Derived.MakeChecks
import Derived.Test.YtpmoknnhgginjaaDoorGSh
/- The anchor: the document's examples. -/
namespace Go.Proofs.YtpmoknnhgginjaaDoor.Law
open Go.RowKit Lzz Ref Pr Rt
set_option linter.unusedVariables false

/-- A reading of tables that is never asked. -/
def noTab (s : St) : (List Int × List Int) × St := (([], []), s)
theorem noTab_on : Onward noTab := fun _ _ => Nat.le_refl _
set_option maxRecDepth 100000 in
set_option maxHeartbeats 1600000 in
theorem anchor_any (w : World) : Calls Tryd.prog 5 #[] w (Yes w) := by
  have b1 : Below w.heap.size w (w.alloc (.cells #[.int .u8 75, .int .u8 4, .int .u8 0, .int .u8 9] 5)) := (Below.refl _ _).alloc (Nat.le_refl _) _
  have C1 := inflate_any (w.alloc (.cells #[.int .u8 75, .int .u8 4, .int .u8 0, .int .u8 9] 5)) (some ⟨w.heap.size, 0, none⟩) 4 4 [75, 4, 0, 9] (lit_bytes w #[.int .u8 75, .int .u8 4, .int .u8 0, .int .u8 9] [75, 4, 0, 9] (0, 0) rfl (by decide)) (by omega) 10 (by omega) noTab noTab_on (ex_read (by omega) ex1_has _ (by omega)).2
  rw [(ex_read (T := True) (by omega) ex1_has (8 * 4 + 1) (by omega)).1] at C1
  have B1 := Lib.hid b1
  have C1 := Lib.hid C1
  clear b1
  go_enter Tryd.func5, Tryd.ntmps5
  go_wp2_with fail
  refine C1.out.mono ?_
  rintro e w1 ⟨hb, -, -, hby, hcase⟩
  rcases hcase with ⟨he, -⟩ | ⟨-, aa, cap, rfl, hown⟩
  · exact absurd rfl he
  have A1 := Lib.hid (show Arg w1 aa 1 cap [97] from bytes_of_own hown hby)
  have H1 := Lib.hid (show Below w.heap.size w w1 from below_more B1.out hb (Nat.le_refl _))
  clear hb hby hown C1 B1
  have C2 := Lib.hid (unzip_any (w1.alloc (.cells #[.int .u8 120, .int .u8 156, .int .u8 75, .int .u8 4, .int .u8 0, .int .u8 0, .int .u8 98, .int .u8 0, .int .u8 98] 5)) (some ⟨w1.heap.size, 0, none⟩) 9 9 [120, 156, 75, 4, 0, 0, 98, 0, 98] (lit_bytes w1 #[.int .u8 120, .int .u8 156, .int .u8 75, .int .u8 4, .int .u8 0, .int .u8 0, .int .u8 98, .int .u8 0, .int .u8 98] [120, 156, 75, 4, 0, 0, 98, 0, 98] (0, 0) rfl (by decide)) (by omega) (by omega) (by omega) rfl rfl 1 (by omega) noTab noTab_on
    (fun w1 _ => (ex_read (by omega) ex2_has _ (by omega)).2) ⟨18, [97], 0⟩ (ex_read (T := True) (by omega) ex2_has _ (by omega)).1.symm)
  go_wp2_with fail
  refine C2.out.mono ?_
  rintro e w2 ⟨hb, hcase⟩
  have hfin : ∃ bb cp, e = .returned (.tuple #[.slice bb 1 cp, .int .i64 0]) ∧ w2.ownsRow (w1.alloc (.cells #[.int .u8 120, .int .u8 156, .int .u8 75, .int .u8 4, .int .u8 0, .int .u8 0, .int .u8 98, .int .u8 0, .int .u8 98] 5)).heap.size 5 1 (.slice bb 1 cp) 1 (bys [97]) := by
    rcases hcase with ⟨h, -⟩ | ⟨-, h, -⟩ | ⟨-, -, h, -⟩ | ⟨-, h, -⟩ | ⟨-, -, -, h⟩
    · exact absurd rfl h
    · exact absurd h (by decide)
    · exact absurd ex_sum h
    · exact absurd h (by decide)
    · exact h
  obtain ⟨bb, cp, rfl, hown⟩ := hfin
  have A2 := bytes_of_own hown (by decide)
  have b2 : Below w1.heap.size w1 w2 := below_more ((Below.refl _ _).alloc (Nat.le_refl _) _) hb (Nat.le_refl _)
  have hcv : (convert 26 9 (.slice aa 1 cap)).run Tryd.prog w2 = .ok (.string (strOf [97])) w2 := conv_arg (A1.out.below b2)
  have hcv2 : (convert 26 9 (.slice bb 1 cp)).run Tryd.prog w2 = .ok (.string (strOf [97])) w2 := conv_arg A2
  have H2 := Lib.hid (below_more H1.out b2 (Nat.le_refl _))
  have hst : (strOf [97]).toList = [97] := by decide +kernel
  generalize strOf [97] = s at *
  clear hb hcase hown A2 b2 C2 A1 H1
  go_wp2_with fail
  go_ret
  exact ⟨rfl, H2.out⟩
end Go.Proofs.YtpmoknnhgginjaaDoor.Law

/- What came in, opened: the table that start-up lays, bytes, lists of texts. -/
namespace Go.Proofs.YtpmoknnhgginjaaDoor.Law
open Go.ChangeShapes Go.WideShapes Go.ChangeAt Go.RowKit Lzz
set_option linter.unusedVariables false

abbrev table : List (String × DataW Unit) := [("scumble/flate.order", Rows.laid_scumble_flate_order)]
/-- The door's own heap meets the condition. -/
theorem door_met (os : Os) (args : Array Value) : laidMetH Tryd.prog table ((World.doorLaid Tryd.prog 14 os).forCall (fun _ _ => 0) ⟨#[], args, []⟩).memory :=
  laidMetH_of_parts3 (fuel := 8) (laidMet_of_run' 8 (by kernel_rfl) (by kernel_rfl)) (by kernel_rfl) (by kernel_rfl)

/-- A slice of bytes that came in. -/
def IsRow (w : World) (a : Option Addr) (len cap : Nat) (zs : List Int) : Prop :=
  (a = none ∧ len = 0 ∧ cap = 0 ∧ zs = []) ∨
  ∃ x, a = some x ∧ len ≤ cap ∧ cap ≤ maxLen ∧ zs.length = cap ∧ (∀ i, i < zs.length → w.cell? (x.add i) = some (.int .u8 (zs.getD i 0))) ∧ ∀ n ∈ zs, (Lit.int .u8 n).wf = true
theorem byte_bounds {n : Int} (h : (Lit.int .u8 n).wf = true) : 0 ≤ n ∧ n < 256 := by
  simp [Lit.wf, IntKind.min, IntKind.max, IntKind.signed, IntKind.bits] at h
  omega
theorem head_spot {w : World} {x : Addr} {v : Value} (h : w.cell? (x.add 0) = some v) : ∃ b off, x = ⟨b, off, none⟩ := by
  obtain ⟨b, off, spot⟩ := x
  have h1 := World.cell?_spot (by simpa [Addr.add] using h)
  simp only at h1
  exact ⟨b, off, by rw [h1]⟩
theorem arg_of_row {w : World} {a : Option Addr} {len cap : Nat} {zs : List Int} (h : IsRow w a len cap zs) : ∃ ds, Arg w a len cap ds := by
  rcases h with ⟨rfl, rfl, rfl, _⟩ | ⟨x, rfl, hl, hm, hz, hcell, hwz⟩
  · exact ⟨[], nil_arg w⟩
  · refine ⟨(zs.take len).map Int.toNat, ⟨by simp; omega, ?_, fun hp => ?_⟩, hl, fun e => (by cases e)⟩
    · intro y hy
      simp only [List.mem_map] at hy
      obtain ⟨z, hz2, rfl⟩ := hy
      have := byte_bounds (hwz z (List.mem_of_mem_take hz2))
      omega
    · obtain ⟨b, off, rfl⟩ := head_spot (hcell 0 (by omega))
      refine ⟨b, off, rfl, fun j y hj => ?_⟩
      rw [List.getElem?_map, List.getElem?_take] at hj
      split at hj
      · rename_i hjl
        have hj2 : j < zs.length := by omega
        have hc := hcell j hj2
        rw [add_spot] at hc
        rw [List.getElem?_eq_getElem hj2] at hj
        simp only [Option.map_some, Option.some.injEq] at hj
        rw [hc, List.getD_eq_getElem?_getD, List.getElem?_eq_getElem hj2]
        have := byte_bounds (hwz _ (List.getElem_mem hj2))
        simp only [Option.getD_some]
        congr 2
        omega
      · cases hj
theorem arg_of_trod {H : Type} {enc : TypeId × Value → H} {w : World} {a : Option Addr} {len cp : Nat} {d : DataW H} {p : List MemPlace}
    (h : DataW.Trod enc Tryd.prog w 0 (fun _ => true) true 26 (.slice a len cp) d p) : ∃ ds, Arg w a len cp ds := by
  obtain ⟨fuel, hf⟩ := h
  have k : ∃ zs, IsRow w a len cp zs := by
    rcases open_ints Tryd.underlying26 Tryd.underlying5 (by kernel_rfl) hf with ⟨hcs, _⟩ | ⟨x, l, c, zs, hcs, _, hl, hm, hz, _, hcell, hwz⟩
    · simp [Value.cells] at hcs
      obtain ⟨rfl, rfl, rfl⟩ := hcs
      exact ⟨[], .inl ⟨rfl, rfl, rfl, rfl⟩⟩
    · simp [Value.cells] at hcs
      obtain ⟨rfl, rfl, rfl⟩ := hcs
      exact ⟨zs, .inr ⟨_, rfl, hl, hm, by simpa using hz, hcell, hwz⟩⟩
  obtain ⟨zs, hz⟩ := k
  exact arg_of_row hz

theorem texts_each {H : Type} {enc : TypeId × Value → H} {w : World} {fuel : Nat} {a : Option Addr} {len cp : Nat} {x : DataW H × List MemPlace}
    (h : DataW.trod enc Tryd.prog w 0 (fun _ => true) true fuel 22 [.slice a len cp] = some x) : ∀ i, i < len → ∃ ys b off a' m c', a = some ⟨b, off, none⟩ ∧ w.cell? ⟨b, off + i, none⟩ = some (.slice a' m c') ∧ (m ≤ c' ∧ (a' = none → m = 0 ∧ c' = 0)) ∧ Bytes w a' m ys := by
  rcases Deep.open_int_rows Tryd.underlying22 Tryd.underlying26 Tryd.underlying5 (by kernel_rfl) (by kernel_rfl) h with ⟨hcs, _⟩ | ⟨ad, l, c, A, L, C, Z, hcs, _, hl, hm, _, hi⟩
  · simp only [List.cons.injEq, and_true, Value.slice.injEq] at hcs
    obtain ⟨rfl, rfl, rfl⟩ := hcs
    intro i hi; omega
  · simp only [List.cons.injEq, and_true, Value.slice.injEq] at hcs
    obtain ⟨rfl, rfl, rfl⟩ := hcs
    intro i hlt
    obtain ⟨b, off, rfl⟩ := head_spot (hi 0 (by omega)).1
    obtain ⟨hc, h1, h2, h3, h4, h5, h6⟩ := hi i (by omega)
    rw [add_spot] at hc
    have k : IsRow w (A i) (L i) (C i) (Z i) := by
      cases hA : A i with
      | none =>
        have := h5 hA
        exact .inl ⟨rfl, by omega, this, List.eq_nil_of_length_eq_zero (by omega)⟩
      | some a' => exact .inr ⟨a', rfl, h1, h2, h3, fun j hj => (h6 a' hA).2 j (by omega), h4⟩
    obtain ⟨ds, hd⟩ := arg_of_row k
    exact ⟨ds, b, off, A i, L i, C i, rfl, hc, ⟨hd.2.1, hd.2.2⟩, hd.1⟩
theorem texts_of_trod {H : Type} {enc : TypeId × Value → H} {w : World} {a : Option Addr} {len cp : Nat} {d : DataW H} {p : List MemPlace}
    (h : DataW.Trod enc Tryd.prog w 0 (fun _ => true) true 22 (.slice a len cp) d p) : ∃ ls, Su.Texts w a len ls := by
  obtain ⟨fuel, hf⟩ := h
  have h3 := texts_each hf
  have h4 : ∀ i : Nat, ∃ ys : List Nat, i < len → ∃ b off a' m c', a = some ⟨b, off, none⟩ ∧ w.cell? ⟨b, off + i, none⟩ = some (.slice a' m c') ∧ (m ≤ c' ∧ (a' = none → m = 0 ∧ c' = 0)) ∧ Bytes w a' m ys := by
    intro i
    by_cases hi : i < len
    · obtain ⟨ys, hy⟩ := h3 i hi
      exact ⟨ys, fun _ => hy⟩
    · exact ⟨[], fun h => absurd h hi⟩
  obtain ⟨f, hf⟩ := Classical.axiomOfChoice h4
  refine ⟨(List.range len).map f, by simp, fun i ys hx => ?_⟩
  rw [List.getElem?_map] at hx
  by_cases hi : i < len
  · rw [List.getElem?_range hi] at hx
    simp only [Option.map_some, Option.some.injEq] at hx
    subst hx
    exact hf i hi
  · have : (List.range len)[i]? = none := by simp; omega
    rw [this] at hx
    cases hx
end Go.Proofs.YtpmoknnhgginjaaDoor.Law

/- Same; a writer and a row of bytes side by side. -/
namespace Go.Proofs.YtpmoknnhgginjaaDoor.Law
open Go.RowKit Lzz Ref Pr Rt
set_option linter.unusedVariables false

set_option maxHeartbeats 800000 in
theorem same_yes (w : World) (a : Option Addr) (n c : Nat) (b : Option Addr) (d : Nat) (xs : List Nat) (h1 : Bytes w a n xs) (h2 : Bytes w b n xs) (hn : n ≤ 16777216) :
    Calls Tryd.prog 11 #[.slice a n c, .slice b n d] w fun e w' => e = .returned (.bool true) ∧ ∃ q, w' = w.drewN q := by
  have H := Lib.hid (And.intro h1 h2)
  clear h1 h2
  go_enter Tryd.func11, Tryd.ntmps11
  go_wp2
  go_loopw [5] (fun iv wl => ∃ i q : Nat, i ≤ n ∧ iv = .int .i64 i ∧ wl = w.drewN q) (fun iv _ => n - (intOf iv).toNat)
  case atStart => exact ⟨0, 0, Nat.zero_le _, rfl, rfl⟩
  case round =>
    obtain ⟨i, q, hi, rfl, hq⟩ := hrel
    by_cases hlt : i < n
    · obtain ⟨b0, o0, y, rfl, hy, hy2, hc⟩ := (H.out.1.later (w' := w.drewN q) (fun _ _ => rfl)).at hlt
      obtain ⟨b1, o1, y', rfl, hy', _, hc'⟩ := (H.out.2.later (w' := w.drewN q) (fun _ _ => rfl)).at hlt
      rw [hy] at hy'
      obtain rfl := Option.some.inj hy'
      rw [← hq] at hc hc'
      have HQ := Lib.hid hq
      clear hy hy' hq
      go_wp2
      go_quiet (fail)
      have HQ2 := Lib.hid (show ∃ q2, wr.drewN nq = w.drewN q2 from ⟨q + nq, by rw [HQ.out]; simp [World.drewN, Nat.add_assoc]⟩)
      generalize wr.drewN nq = w5 at *
      go_wp2
      go_roundw
      case rel =>
        obtain ⟨q2, h2⟩ := HQ2.out
        exact ⟨i + 1, q2, hlt, by go_num, h2⟩
      case measure => simp [intOf] <;> omega
    · obtain rfl : i = n := by omega
      have HQ := Lib.hid hq
      clear hq
      go_wp2
      go_ret
      exact ⟨rfl, q, HQ.out⟩

/-- A writer, and a row of bytes that grows beside it. -/
def Sm (w : World) (P : Nat) (L : List Bool) (all : List Nat) (va : Value) (W : World) : Prop :=
  ∃ D, Bi.Wr W w.heap.size P D false L ∧ W.ownsRow w.heap.size 5 1 va all.length (bys all) ∧ va.ownBlock ≠ some P ∧ (∀ k, va.ownBlock = some k → D ≠ some k) ∧ Below w.heap.size w W
theorem Sm.below {w W : World} {P : Nat} {L : List Bool} {all : List Nat} {va : Value} (h : Sm w P L all va W) : Below w.heap.size w W := by obtain ⟨D, _, _, _, _, h⟩ := h; exact h
theorem Sm.step {w W W' : World} {P : Nat} {L L' : List Bool} {all : List Nat} {va : Value} {D : Option Nat} (h1 : Bi.Wr W w.heap.size P D false L) (h2 : W.ownsRow w.heap.size 5 1 va all.length (bys all)) (h3 : va.ownBlock ≠ some P) (h4 : ∀ k, va.ownBlock = some k → D ≠ some k) (h5 : Below w.heap.size w W)
    (ht : Bi.Then W w.heap.size P D false L' W') : Sm w P L' all va W' := by
  obtain ⟨D', q1, q2, q3⟩ := ht
  have hP : w.heap.size ≤ P := Bi.Raw.at_ h1
  refine ⟨D', q1, own_kept2 h2 (fun g e => q2.block g (own_lt2 h2 g e).2 (fun hs => ?_)), h3, fun k hk => ?_, h5.trans (q2.below h5.size (fun k hk hs => ?_))⟩
  · rcases hs with rfl | hs
    · exact h3 e
    · exact h4 g e hs.symm
  · rcases q3 with rfl | ⟨j, rfl, hj⟩
    · exact h4 k hk
    · intro e
      have := (own_lt2 h2 k hk).2
      simp only [Option.some.injEq] at e
      omega
  · rcases hs with rfl | hs
    · omega
    · have := (Bi.Raw.data_lt h1 hs.symm).1
      omega
theorem sm_put {w W : World} {P : Nat} {L : List Bool} {all : List Nat} {va : Value} (h : Sm w P L all va W) (hl : L.length ≤ 16777216) (v n : Nat) (hn : n ≤ 24) (hv : v < 2 ^ n) :
    Calls Tryd.prog 7 #[.pointer (some ⟨P, 0, none⟩), .int .i64 v, .int .i64 n] W fun e W' => e = .returned (.bool true) ∧ Sm w P (L ++ Bi.lowr v n) all va W' := by
  obtain ⟨D, h1, h2, h3, h4, h5⟩ := h
  refine (Bi.put_yes W w.heap.size P D false L h1 h5.size hl v n hn hv).mono ?_
  rintro e W' ⟨rfl, ht⟩
  exact ⟨rfl, Sm.step h1 h2 h3 h4 h5 ht⟩
theorem sm_fill {w W : World} {P : Nat} {L : List Bool} {all : List Nat} {va : Value} (h : Sm w P L all va W) (hl : L.length ≤ 16777216) (bit : Nat) (hb : bit ≤ 16777216) :
    Calls Tryd.prog 8 #[.pointer (some ⟨P, 0, none⟩), .int .i64 bit] W fun e W' => e = .returned (.tuple #[]) ∧ Sm w P (L ++ List.replicate ((8 - L.length % 8) % 8) (decide (bit % 2 = 1))) all va W' := by
  obtain ⟨D, h1, h2, h3, h4, h5⟩ := h
  refine (Bi.fill_any W w.heap.size P D false L h1 h5.size hl bit (by omega) (by omega)).mono ?_
  rintro e W' ⟨rfl, ht⟩
  have e : Bi.fill L (bit : Int) = L ++ List.replicate ((8 - L.length % 8) % 8) (decide (bit % 2 = 1)) := by
    unfold Bi.fill
    rw [show (decide ((bit : Int) % 2 = 1)) = decide (bit % 2 = 1) by simp only [decide_eq_decide]; omega]
  rw [e] at ht
  exact ⟨rfl, Sm.step h1 h2 h3 h4 h5 ht⟩
/-- The row grows. -/
theorem Sm.grow {w W W2 : World} {P : Nat} {L : List Bool} {all ds : List Nat} {va : Value} {aa : Option Addr} {cap m M : Nat} (h : Sm w P L all va W) (hm : m = all.length + ds.length) (hown : W2.ownsRow w.heap.size 5 1 (.slice aa m cap) m (bys (all ++ ds))) (hg : W.grownBy W2 va.ownBlock) (hat : (Value.slice aa m cap).ownBlock = va.ownBlock ∨ (Value.slice aa m cap).ownBlock = some M) (hM : W.heap.size ≤ M) :
    Sm w P L (all ++ ds) (.slice aa m cap) W2 := by
  obtain ⟨D, h1, h2, h3, h4, h5⟩ := h
  have hP := Bi.Raw.lt h1
  refine ⟨D, Bi.Raw.kept h1 (hg.block P hP (fun e => h3 e.symm)) (fun k hk => hg.block k (Bi.Raw.data_lt h1 hk).2 (fun e => h4 k e.symm hk)), by rw [List.length_append, ← hm]; exact hown, ?_, fun k hk => ?_, grown_below (Nat.le_refl _) h5 hg (fun k e => (own_lt2 h2 k e).1)⟩
  · rcases hat with e | e
    · rw [e]; exact h3
    · rw [e]; simp; omega
  · rcases hat with e | e
    · rw [e] at hk; exact h4 k hk
    · rw [e] at hk
      simp only [Option.some.injEq] at hk
      intro e2
      have := (Bi.Raw.data_lt h1 e2).2
      omega
end Go.Proofs.YtpmoknnhgginjaaDoor.Law

/- A writer beside blocks that are kept; the law's put. -/
namespace Go.Proofs.YtpmoknnhgginjaaDoor.Law
open Go.RowKit Lzz Ref Pr Rt
set_option linter.unusedVariables false

/-- A writer, a row of bytes that grows beside it, blocks that are kept. -/
def Sk (w : World) (P : Nat) (K : Nat → Prop) (L : List Bool) (all : List Nat) (va : Value) (W : World) : Prop :=
  ∃ D, Bi.Wr W w.heap.size P D false L ∧ W.ownsRow w.heap.size 5 1 va all.length (bys all) ∧ va.ownBlock ≠ some P ∧ (∀ k, va.ownBlock = some k → D ≠ some k) ∧ Below w.heap.size w W ∧ ∀ k, K k → k ≠ P ∧ D ≠ some k ∧ va.ownBlock ≠ some k ∧ k < W.heap.size
theorem Sk.below {w W : World} {P : Nat} {K : Nat → Prop} {L : List Bool} {all : List Nat} {va : Value} (h : Sk w P K L all va W) : Below w.heap.size w W := by obtain ⟨D, _, _, _, _, h, _⟩ := h; exact h
theorem sk_put {w W : World} {P : Nat} {K : Nat → Prop} {L : List Bool} {all : List Nat} {va : Value} (h : Sk w P K L all va W) (hl : L.length ≤ 16777216) (v n : Nat) (hn : n ≤ 24) (hv : v < 2 ^ n) :
    Calls Tryd.prog 7 #[.pointer (some ⟨P, 0, none⟩), .int .i64 v, .int .i64 n] W fun e W' => e = .returned (.bool true) ∧ Sk w P K (L ++ Bi.lowr v n) all va W' ∧ Kept K W W' := by
  obtain ⟨D, h1, h2, h3, h4, h5, h6⟩ := h
  refine (Bi.put_yes W w.heap.size P D false L h1 h5.size hl v n hn hv).mono ?_
  rintro e W' ⟨rfl, ht⟩
  obtain ⟨D', q1, q2, q3, q4, q5⟩ := Sm.step h1 h2 h3 h4 h5 ht
  obtain ⟨D2, t1, t2, t3⟩ := ht
  have hk : ∀ k, K k → ¬ (k = P ∨ some k = D) := fun k hk hs => by
    rcases hs with rfl | hs
    · exact (h6 _ hk).1 rfl
    · exact (h6 k hk).2.1 hs.symm
  refine ⟨rfl, ⟨D2, t1, own_kept2 h2 (fun g e => t2.block g (own_lt2 h2 g e).2 (fun hs => ?_)), h3, fun k hk' => ?_, q5, fun k hK => ?_⟩, fun k hK => t2.block k (h6 k hK).2.2.2 (hk k hK)⟩
  · rcases hs with rfl | hs
    · exact h3 e
    · exact h4 g e hs.symm
  · rcases t3 with rfl | ⟨j, rfl, hj⟩
    · exact h4 k hk'
    · intro e
      have := (own_lt2 h2 k hk').2
      simp only [Option.some.injEq] at e
      omega
  · obtain ⟨p1, p2, p3, p4⟩ := h6 k hK
    refine ⟨p1, ?_, p3, Nat.lt_of_lt_of_le p4 t2.size⟩
    rcases t3 with rfl | ⟨j, rfl, hj⟩
    · exact p2
    · intro e
      simp only [Option.some.injEq] at e
      omega
theorem Sk.made {w W W2 : World} {P : Nat} {K : Nat → Prop} {L : List Bool} {all : List Nat} {va : Value} (h : Sk w P K L all va W) (hb : Below W.heap.size W W2) : Sk w P (Made K W.heap.size W2.heap.size) L all va W2 ∧ Kept K W W2 := by
  obtain ⟨D, h1, h2, h3, h4, h5, h6⟩ := h
  have hP := Bi.Raw.lt h1
  refine ⟨⟨D, Bi.Raw.kept h1 (hb.block P hP) (fun k hk => hb.block k (Bi.Raw.data_lt h1 hk).2), own_kept2 h2 (fun g e => hb.block g (own_lt2 h2 g e).2), h3, h4, below_more h5 hb (Nat.le_refl _), ?_⟩, fun k hk => hb.block k (h6 k hk).2.2.2⟩
  rintro k (hk | hk)
  · obtain ⟨p1, p2, p3, p4⟩ := h6 k hk
    exact ⟨p1, p2, p3, Nat.lt_of_lt_of_le p4 hb.size⟩
  · refine ⟨by omega, fun e => ?_, fun e => ?_, hk.2⟩
    · have := (Bi.Raw.data_lt h1 e).2; omega
    · have := (own_lt2 h2 k e).2; omega
theorem Sk.weaker {w W : World} {P : Nat} {K K' : Nat → Prop} {L : List Bool} {all : List Nat} {va : Value} (h : Sk w P K L all va W) (hk : ∀ k, K' k → K k) : Sk w P K' L all va W := by
  obtain ⟨D, h1, h2, h3, h4, h5, h6⟩ := h
  exact ⟨D, h1, h2, h3, h4, h5, fun k h => h6 k (hk k h)⟩
theorem Sk.drewN {w W : World} {P : Nat} {K : Nat → Prop} {L : List Bool} {all : List Nat} {va : Value} (h : Sk w P K L all va W) (q : Nat) : Sk w P K L all va (W.drewN q) ∧ Kept K W (W.drewN q) := by
  obtain ⟨k1, k2⟩ := h.made (W2 := W.drewN q) ⟨rfl, rfl, rfl, Nat.le_refl _, fun _ _ => rfl⟩
  exact ⟨k1.weaker (fun k hk => Or.inl hk), k2⟩

theorem lowr_one (v : Nat) : Bi.lowr v 1 = [decide (v % 2 = 1)] := by simp [Bi.lowr]
theorem take_code (C L j : Nat) (h : j < L) : (codeBits C L).take j ++ Bi.lowr (C / 2 ^ (L - (j + 1)) % 2) 1 = (codeBits C L).take (j + 1) := by
  rw [List.take_add_one, codeBits_get C L j h, lowr_one, Nat.mod_mod]; rfl

set_option maxRecDepth 100000 in
set_option maxHeartbeats 3200000 in
/-- The law's put: a symbol's code, bit by bit. -/
theorem put_any {w W : World} {P gw : Nat} {K : Nat → Prop} {L0 : List Bool} {all : List Nat} {va : Value} (h : Sk w P K L0 all va W) (hl : L0.length ≤ 1000000) (hgw : W.heap[gw]? = some (.cells #[.pointer (some ⟨P, 0, none⟩)] 24 (0, 0))) (hKg : K gw)
    (v : Value) (cd : Cd) (hc : CodeIn K W v cd) (s Ls Cs : Nat) (hs : s < cd.L.length) (hs2 : s < cd.C.length) (hL : cd.L.getD s 0 = (Ls : Int)) (hC : cd.C.getD s 0 = (Cs : Int)) (hL16 : Ls ≤ 16) (hC16 : Cs < 65536) :
    Calls Tryd.prog 13 #[v, .int .i64 s, .pointer (some ⟨gw, 0, none⟩)] W fun e W' => e = .returned (.tuple #[]) ∧ Sk w P K (L0 ++ codeBits Cs Ls) all va W' ∧ Kept K W W' := by
  obtain ⟨aL, cL, aC, cC, rfl, iL, iC, kL, kC⟩ := hc.val
  obtain ⟨nL, hnL⟩ : ∃ nL, nL = cd.L.length := ⟨_, rfl⟩
  obtain ⟨nC, hnC⟩ : ∃ nC, nC = cd.C.length := ⟨_, rfl⟩
  rw [← hnL] at hs iL ⊢
  rw [← hnC] at hs2 iC ⊢
  obtain ⟨B, hB⟩ : ∃ B, B = W.heap.size := ⟨_, rfl⟩
  obtain ⟨W1, hW1⟩ : ∃ W1, W1 = W.alloc (.cells #[.slice aL nL cL, .slice aC nC cC, .int .i64 cd.W, .bool cd.ok] 37) := ⟨_, rfl⟩
  have hb : Below W.heap.size W W1 := by rw [hW1]; exact (Below.refl _ _).alloc (Nat.le_refl _) _
  have hBX : W1.heap[B]? = some (.cells #[.slice aL nL cL, .slice aC nC cC, .int .i64 cd.W, .bool cd.ok] 37 (0, 0)) := by rw [hW1, hB]; exact heap_alloc_new _ _
  obtain ⟨m1, m2⟩ := h.made hb
  have kB : Made K W.heap.size W1.heap.size B := Or.inr ⟨by omega, lt_of_block hBX⟩
  have kK : ∀ k, K k → Made K W.heap.size W1.heap.size k := fun k hk => Or.inl hk
  generalize Made K W.heap.size W1.heap.size = K2 at *
  have iL1 := ints_keep iL (fun x hx => m2 _ (kL x hx))
  have iC1 := ints_keep iC (fun x hx => m2 _ (kC x hx))
  have hgw1 := (m2 gw hKg).trans hgw
  -- what the reads find, in every world that keeps
  have RD := Lib.hid (fun (W9 : World) (hk : Kept K2 W1 W9) => show W9.cell? ⟨B, 0, none⟩ = some (.slice aL nL cL) ∧ W9.cell? ⟨B, 1, none⟩ = some (.slice aC nC cC) ∧ W9.cell? ⟨gw, 0, none⟩ = some (.pointer (some ⟨P, 0, none⟩)) ∧ (∃ b o, aL = some ⟨b, o, none⟩ ∧ W9.cell? ⟨b, o + s, none⟩ = some (.int .i64 Ls)) ∧ (∃ b o, aC = some ⟨b, o, none⟩ ∧ W9.cell? ⟨b, o + s, none⟩ = some (.int .i64 Cs)) from by
    have e1 := (hk B kB).trans hBX
    have e2 := (hk gw (kK gw hKg)).trans hgw1
    refine ⟨by simp [World.cell?, e1], by simp [World.cell?, e1], by simp [World.cell?, e2], ?_, ?_⟩
    · obtain ⟨b, o, z, rfl, hz, _, hcz⟩ := (ints_keep iL1 (fun x hx => hk _ (kK _ (kL x hx)))).at (show s < nL from hs)
      refine ⟨b, o, rfl, ?_⟩
      rw [hcz]
      rw [List.getD_eq_getElem?_getD, hz] at hL
      simp only [Option.getD_some] at hL
      rw [hL]
    · obtain ⟨b, o, z, rfl, hz, _, hcz⟩ := (ints_keep iC1 (fun x hx => hk _ (kK _ (kC x hx)))).at (show s < nC from hs2)
      refine ⟨b, o, rfl, ?_⟩
      rw [hcz]
      rw [List.getD_eq_getElem?_getD, hz] at hC
      simp only [Option.getD_some] at hC
      rw [hC])
  obtain ⟨x0, x1, x2, ⟨bL, oL, hbL, x3⟩, ⟨bC, oC, hbC, x4⟩⟩ := RD.out W1 (Kept.refl _ _)
  subst hbL
  subst hbC
  have HS := Lib.hid (And.intro m1 (And.intro m2 kK))
  clear h hgw hc iL iC kL kC hb hBX m1 m2 kB kK iL1 iC1 hgw1 hL hC hnL hnC
  go_enter Tryd.func13, Tryd.ntmps13
  go_upto_region 1 with fail
  rw [← hB, ← hW1]
  clear hB hW1
  have wL : IntKind.i64.wrap ((Ls : Int) - 1) = (Ls : Int) - 1 := wrap_i64 _ (by omega) (by omega)
  go_wp2_with fail
  go_loopw [5] (fun kv wl => ∃ j : Nat, j ≤ Ls ∧ kv = .int .i64 ((Ls : Int) - 1 - (j : Int)) ∧ Sk w P K2 (L0 ++ (codeBits Cs Ls).take j) all va wl ∧ Kept K2 W1 wl) (fun kv _ => ((intOf kv) + 1).toNat)
  case atStart => exact ⟨0, Nat.zero_le _, by simp, by simpa using HS.out.1, Kept.refl _ _⟩
  case round =>
    clear x0 x1 x2 x3 x4
    obtain ⟨j, hj, rfl, hS, hk⟩ := hrel
    by_cases hlt : j < Ls
    · obtain ⟨y0, y1, y2, ⟨b1, o1, e1, y3⟩, ⟨b2, o2, e2, y4⟩⟩ := RD.out wr hk
      simp only [Option.some.injEq, Addr.mk.injEq, and_true] at e1 e2
      obtain ⟨rfl, rfl⟩ := e1
      obtain ⟨rfl, rfl⟩ := e2
      obtain ⟨k, hk2⟩ : ∃ k, k = Ls - (j + 1) := ⟨_, rfl⟩
      have hkz : (Ls : Int) - 1 - (j : Int) = (k : Int) := by omega
      rw [hkz]
      obtain ⟨z, hz⟩ : ∃ z, z = Cs / 2 ^ k := ⟨_, rfl⟩
      obtain ⟨bit, hbit⟩ : ∃ bit, bit = z % 2 := ⟨_, rfl⟩
      have hb2 : bit < 2 := by rw [hbit]; exact Nat.mod_lt _ (by omega)
      have hzl : z ≤ Cs := by rw [hz]; exact Nat.div_le_self _ _
      have q1 : (Cs : Int) / 2 ^ k = (z : Int) := by rw [hz]; simp
      have q2 : min k 64 = k := Nat.min_eq_left (by omega)
      have q3 : bits .and .i64 (z : Int) 1 = (bit : Int) := by rw [hbit]; exact Hu.i64_odd z (by omega)
      have hlen : (L0 ++ (codeBits Cs Ls).take j).length ≤ 16777216 := by rw [List.length_append, List.length_take, codeBits_length]; omega
      obtain ⟨d1, d2⟩ := hS.drewN 1
      have C := sk_put d1 hlen bit 1 (by omega) (by omega)
      rw [List.append_assoc, show bit = Cs / 2 ^ (Ls - (j + 1)) % 2 by rw [hbit, hz, hk2], take_code Cs Ls j hlt, ← hk2, ← hz, ← hbit] at C
      have CALL := Lib.hid (show Calls Tryd.prog 7 #[.pointer (some ⟨P, 0, none⟩), .int .i64 bit, .int .i64 1] wr.drew (fun e W' => e = .returned (.bool true) ∧ Sk w P K2 (L0 ++ (codeBits Cs Ls).take (j + 1)) all va W' ∧ Kept K2 W1 W') from C.mono (fun e W' h => ⟨h.1, h.2.1, Kept.trans hk (Kept.trans d2 h.2.2)⟩))
      have ENT : ∀ (vs : Array Value) (w : World), (callFunc 7 vs).run Tryd.prog w = .ok (.enter 7 vs) w := enters_of Tryd.func7 (by kernel_rfl) rfl
      have ENT := Lib.hid ENT
      have HK2 := Lib.hid hk2
      clear hS hk hz hbit d1 d2 C hlen hk2
      go_wp2_with fail
      go_region_law (first
        | (refine step_call (by rfl) 7 #[.tmp 16, .tmp 24, .const (.int .i64 1)] #[24, 3, 3] (by rfl) ENT.out #[.pointer (some ⟨P, 0, none⟩), .int .i64 bit, .int .i64 1] (by rfl) (.bool true) _ CALL.out ?_; intro w5 hx5))
      all_goals
        have X := Lib.hid hx5
        clear hx5 y0 y1 y2 y3 y4 q1 q2 q3
        go_wp2_with fail
        go_roundw
        case rel => exact ⟨j + 1, hlt, by have := HK2.out; go_num, X.out.1, X.out.2⟩
        case measure => simp [intOf] <;> omega
    · obtain rfl : j = Ls := by omega
      rw [List.take_of_length_le (by rw [codeBits_length]; exact Nat.le_refl _)] at hS
      have X := Lib.hid (show Sk w P K (L0 ++ codeBits Cs j) all va wr ∧ Kept K W wr from ⟨hS.weaker HS.out.2.2, Kept.trans HS.out.2.1 (fun k hk' => hk k (HS.out.2.2 k hk'))⟩)
      have hneg : (j : Int) - 1 - (j : Int) = -1 := by omega
      rw [hneg]
      clear hS hk
      go_wp2_with fail
      go_end0
      exact ⟨rfl, X.out⟩
end Go.Proofs.YtpmoknnhgginjaaDoor.Law

/- What the law of copies holds in memory. -/
namespace Go.Proofs.YtpmoknnhgginjaaDoor.Law
open Go.RowKit Lzz Ref Pr Rt
set_option linter.unusedVariables false

theorem Sk.grow {w W W2 : World} {P : Nat} {K : Nat → Prop} {L : List Bool} {all ds : List Nat} {va : Value} {aa : Option Addr} {cap m M : Nat} (h : Sk w P K L all va W) (hm : m = all.length + ds.length) (hown : W2.ownsRow w.heap.size 5 1 (.slice aa m cap) m (bys (all ++ ds))) (hg : W.grownBy W2 va.ownBlock) (hat : (Value.slice aa m cap).ownBlock = va.ownBlock ∨ (Value.slice aa m cap).ownBlock = some M) (hM : W.heap.size ≤ M) :
    Sk w P K L (all ++ ds) (.slice aa m cap) W2 ∧ Kept K W W2 := by
  obtain ⟨D, h1, h2, h3, h4, h5, h6⟩ := h
  obtain ⟨D2, t1, t2, t3, t4, t5⟩ := Sm.grow (w := w) ⟨D, h1, h2, h3, h4, h5⟩ hm hown hg hat hM
  have hP := Bi.Raw.lt h1
  refine ⟨⟨D, Bi.Raw.kept h1 (hg.block P hP (fun e => h3 e.symm)) (fun k hk => hg.block k (Bi.Raw.data_lt h1 hk).2 (fun e => h4 k e.symm hk)), t2, t3, fun k hk => ?_, t5, fun k hk => ?_⟩, fun k hk => hg.block k (h6 k hk).2.2.2 (fun e => (h6 k hk).2.2.1 e.symm)⟩
  · rcases hat with e | e
    · rw [e] at hk; exact h4 k hk
    · rw [e] at hk
      simp only [Option.some.injEq] at hk
      intro e2
      have := (Bi.Raw.data_lt h1 e2).2
      omega
  · obtain ⟨p1, p2, p3, p4⟩ := h6 k hk
    refine ⟨p1, p2, ?_, Nat.lt_of_lt_of_le p4 hg.size⟩
    rcases hat with e | e
    · rw [e]; exact p3
    · rw [e]; simp; omega
theorem ints_block {W : World} {g n : Nat} {zs : List Int} (h : Hu.Ints W (some ⟨g, 0, none⟩) n zs) (hn : 0 < n) : g < W.heap.size ∧ ∃ z : Int, W.cell? ⟨g, 0, none⟩ = some (.int .i64 z) := by
  obtain ⟨h1, h2, h3⟩ := h
  obtain ⟨b, o, e, hc⟩ := h3 hn
  simp only [Option.some.injEq, Addr.mk.injEq, and_true] at e
  obtain ⟨rfl, rfl⟩ := e
  have hj : zs[0]? = some (zs.getD 0 0) := by rw [List.getD_eq_getElem?_getD, List.getElem?_eq_getElem (by omega)]; rfl
  have := hc 0 _ hj
  exact ⟨World.block_lt_of_cell? W _ this, _, this⟩

def vl (a b : Nat) : Value := .agg #[.slice (some ⟨a, 0, none⟩) 288 288, .slice (some ⟨b, 0, none⟩) 288 288, .int .i64 (Hu.weightZ fixL : Nat), .bool true]
def vd (c d : Nat) : Value := .agg #[.slice (some ⟨c, 0, none⟩) 32 32, .slice (some ⟨d, 0, none⟩) 32 32, .int .i64 (Hu.weightZ fixD : Nat), .bool true]
/-- The writer's box, the codes' boxes, the codes. -/
structure CM (P : Nat) (K : Nat → Prop) (gw B8 B9 a b c d : Nat) (W : World) : Prop where
  gw_ : W.heap[gw]? = some (.cells #[.pointer (some ⟨P, 0, none⟩)] 24 (0, 0))
  b8 : W.heap[B8]? = some (.cells #[.slice (some ⟨a, 0, none⟩) 288 288, .slice (some ⟨b, 0, none⟩) 288 288, .int .i64 (Hu.weightZ fixL : Nat), .bool true] 37 (0, 0))
  b9 : W.heap[B9]? = some (.cells #[.slice (some ⟨c, 0, none⟩) 32 32, .slice (some ⟨d, 0, none⟩) 32 32, .int .i64 (Hu.weightZ fixD : Nat), .bool true] 37 (0, 0))
  cl : CodeIn K W (vl a b) (cdOf fixL)
  cd : CodeIn K W (vd c d) (cdOf fixD)
  ks : K gw ∧ K B8 ∧ K B9
theorem CM.keep {P : Nat} {K : Nat → Prop} {gw B8 B9 a b c d : Nat} {W W2 : World} (h : CM P K gw B8 B9 a b c d W) (hk : Kept K W W2) : CM P K gw B8 B9 a b c d W2 :=
  ⟨(hk _ h.ks.1).trans h.gw_, (hk _ h.ks.2.1).trans h.b8, (hk _ h.ks.2.2).trans h.b9, h.cl.keep hk, h.cd.keep hk, h.ks⟩
/-- What the walk reads of them. -/
theorem CM.cells {P : Nat} {K : Nat → Prop} {gw B8 B9 a b c d : Nat} {W : World} (h : CM P K gw B8 B9 a b c d W) : W.cell? ⟨gw, 0, none⟩ = some (.pointer (some ⟨P, 0, none⟩)) ∧
    (W.cell? ⟨B8, 0, none⟩ = some (.slice (some ⟨a, 0, none⟩) 288 288) ∧ W.cell? ⟨B8, 1, none⟩ = some (.slice (some ⟨b, 0, none⟩) 288 288) ∧ W.cell? ⟨B8, 2, none⟩ = some (.int .i64 (Hu.weightZ fixL : Nat)) ∧ W.cell? ⟨B8, 3, none⟩ = some (.bool true)) ∧
    (W.cell? ⟨B9, 0, none⟩ = some (.slice (some ⟨c, 0, none⟩) 32 32) ∧ W.cell? ⟨B9, 1, none⟩ = some (.slice (some ⟨d, 0, none⟩) 32 32) ∧ W.cell? ⟨B9, 2, none⟩ = some (.int .i64 (Hu.weightZ fixD : Nat)) ∧ W.cell? ⟨B9, 3, none⟩ = some (.bool true)) := by
  have h1 := h.gw_
  have h2 := h.b8
  have h3 := h.b9
  refine ⟨?_, ⟨?_, ?_, ?_, ?_⟩, ?_, ?_, ?_, ?_⟩ <;> simp [World.cell?, h1, h2, h3]
theorem cdOf_L (zs : List Int) : (cdOf zs).L = zs := rfl
theorem cdOf_C (zs : List Int) : (cdOf zs).C = Hu.codesZ zs := rfl
theorem vl_is (a b n m : Nat) (hn : n = 288) (hm : m = 288) (wt : Int) (hw : wt = (Hu.weightZ fixL : Nat)) : vl a b = .agg #[.slice (some ⟨a, 0, none⟩) n 288, .slice (some ⟨b, 0, none⟩) m 288, .int .i64 wt, .bool true] := by subst hn hm hw; rfl
theorem vd_is (a b n m : Nat) (hn : n = 32) (hm : m = 32) (wt : Int) (hw : wt = (Hu.weightZ fixD : Nat)) : vd a b = .agg #[.slice (some ⟨a, 0, none⟩) n 32, .slice (some ⟨b, 0, none⟩) m 32, .int .i64 wt, .bool true] := by subst hn hm hw; rfl
theorem cdOf_W (zs : List Int) : (cdOf zs).W = (Hu.weightZ zs : Nat) := rfl
theorem CM.putL {w W : World} {P gw B8 B9 a b c d : Nat} {K : Nat → Prop} {L0 : List Bool} {all : List Nat} {va : Value} (hc : CM P K gw B8 B9 a b c d W) (h : Sk w P K L0 all va W) (hl : L0.length ≤ 1000000) (s : Nat) (hs : s < 288) :
    Calls Tryd.prog 13 #[vl a b, .int .i64 s, .pointer (some ⟨gw, 0, none⟩)] W fun e W' => e = .returned (.tuple #[]) ∧ Sk w P K (L0 ++ codeBits (fC s) (fL s)) all va W' ∧ CM P K gw B8 B9 a b c d W' := by
  obtain ⟨q1, q2, q3, q4, q5⟩ := fL_facts s hs
  refine (put_any h hl hc.gw_ hc.ks.1 (vl a b) (cdOf fixL) hc.cl s (fL s) (fC s) (by rw [cdOf_L, fix_len.1]; exact hs) (by rw [cdOf_C, Hu.codesZ_length, fix_len.1]; exact hs) (by rw [cdOf_L]; exact q1) (by rw [cdOf_C]; exact q4) q3 q5).mono ?_
  rintro e W' ⟨rfl, h1, h2⟩
  exact ⟨rfl, h1, hc.keep h2⟩
theorem CM.putD {w W : World} {P gw B8 B9 a b c d : Nat} {K : Nat → Prop} {L0 : List Bool} {all : List Nat} {va : Value} (hc : CM P K gw B8 B9 a b c d W) (h : Sk w P K L0 all va W) (hl : L0.length ≤ 1000000) (s : Nat) (hs : s < 32) :
    Calls Tryd.prog 13 #[vd c d, .int .i64 s, .pointer (some ⟨gw, 0, none⟩)] W fun e W' => e = .returned (.tuple #[]) ∧ Sk w P K (L0 ++ codeBits (gC s) 5) all va W' ∧ CM P K gw B8 B9 a b c d W' := by
  obtain ⟨q1, q2, q3⟩ := gC_facts s hs
  refine (put_any h hl hc.gw_ hc.ks.1 (vd c d) (cdOf fixD) hc.cd s 5 (gC s) (by rw [cdOf_L, fix_len.2]; exact hs) (by rw [cdOf_C, Hu.codesZ_length, fix_len.2]; exact hs) (by rw [cdOf_L]; exact q1) (by rw [cdOf_C]; exact q2) (by omega) q3).mono ?_
  rintro e W' ⟨rfl, h1, h2⟩
  exact ⟨rfl, h1, hc.keep h2⟩
theorem CM.putN {w W : World} {P gw B8 B9 a b c d : Nat} {K : Nat → Prop} {L0 : List Bool} {all : List Nat} {va : Value} (hc : CM P K gw B8 B9 a b c d W) (h : Sk w P K L0 all va W) (hl : L0.length ≤ 1000000) (v n : Nat) (hn : n ≤ 24) (hv : v < 2 ^ n) :
    Calls Tryd.prog 7 #[.pointer (some ⟨P, 0, none⟩), .int .i64 v, .int .i64 n] W fun e W' => e = .returned (.bool true) ∧ Sk w P K (L0 ++ Bi.lowr v n) all va W' ∧ CM P K gw B8 B9 a b c d W' := by
  refine (sk_put h (by omega) v n hn hv).mono ?_
  rintro e W' ⟨rfl, h1, h2⟩
  exact ⟨rfl, h1, hc.keep h2⟩
/-- All of it as it begins. -/
theorem cm_start {w W : World} {P gw B8 B9 a b c d : Nat} (hw : Bi.Wr W w.heap.size P none false []) (hb : Below w.heap.size w W) (h1 : W.heap[gw]? = some (.cells #[.pointer (some ⟨P, 0, none⟩)] 24 (0, 0)))
    (h2 : W.heap[B8]? = some (.cells #[.slice (some ⟨a, 0, none⟩) 288 288, .slice (some ⟨b, 0, none⟩) 288 288, .int .i64 (Hu.weightZ fixL : Nat), .bool true] 37 (0, 0)))
    (h3 : W.heap[B9]? = some (.cells #[.slice (some ⟨c, 0, none⟩) 32 32, .slice (some ⟨d, 0, none⟩) 32 32, .int .i64 (Hu.weightZ fixD : Nat), .bool true] 37 (0, 0)))
    (ia : Hu.Ints W (some ⟨a, 0, none⟩) 288 fixL) (ib : Hu.Ints W (some ⟨b, 0, none⟩) 288 (Hu.codesZ fixL)) (ic : Hu.Ints W (some ⟨c, 0, none⟩) 32 fixD) (id : Hu.Ints W (some ⟨d, 0, none⟩) 32 (Hu.codesZ fixD)) :
    ∃ K, Sk w P K [] [] (.slice none 0 0) W ∧ CM P K gw B8 B9 a b c d W := by
  obtain ⟨v, hP, _⟩ := Bi.Raw.holds hw
  have cl1 : (Hu.codesZ fixL).length = 288 := by rw [Hu.codesZ_length, fix_len.1]
  have cd1 : (Hu.codesZ fixD).length = 32 := by rw [Hu.codesZ_length, fix_len.2]
  have hi : ∀ {g n : Nat} {zs : List Int}, Hu.Ints W (some ⟨g, 0, none⟩) n zs → 0 < n → g ≠ P ∧ g < W.heap.size := by
    intro g n zs h hn
    obtain ⟨k1, z, k2⟩ := ints_block h hn
    refine ⟨fun e => ?_, k1⟩
    subst e
    simp [World.cell?, hP] at k2
  have hg : gw ≠ P := fun e => by subst e; rw [hP] at h1; simp at h1
  have h8 : B8 ≠ P := fun e => by subst e; rw [hP] at h2; simp at h2
  have h9 : B9 ≠ P := fun e => by subst e; rw [hP] at h3; simp at h3
  refine ⟨fun k => k = gw ∨ k = B8 ∨ k = B9 ∨ k = a ∨ k = b ∨ k = c ∨ k = d, ⟨none, hw, World.ownsRow_nil _ _ _ _, by simp [Value.ownBlock], fun k hk => by simp [Value.ownBlock] at hk, hb, ?_⟩, ⟨h1, h2, h3, ?_, ?_, ⟨Or.inl rfl, Or.inr (Or.inl rfl), Or.inr (Or.inr (Or.inl rfl))⟩⟩⟩
  · rintro k (rfl | rfl | rfl | rfl | rfl | rfl | rfl)
    · exact ⟨hg, by simp, by simp [Value.ownBlock], lt_of_block h1⟩
    · exact ⟨h8, by simp, by simp [Value.ownBlock], lt_of_block h2⟩
    · exact ⟨h9, by simp, by simp [Value.ownBlock], lt_of_block h3⟩
    · exact ⟨(hi ia (by omega)).1, by simp, by simp [Value.ownBlock], (hi ia (by omega)).2⟩
    · exact ⟨(hi ib (by omega)).1, by simp, by simp [Value.ownBlock], (hi ib (by omega)).2⟩
    · exact ⟨(hi ic (by omega)).1, by simp, by simp [Value.ownBlock], (hi ic (by omega)).2⟩
    · exact ⟨(hi id (by omega)).1, by simp, by simp [Value.ownBlock], (hi id (by omega)).2⟩
  · refine ⟨some ⟨a, 0, none⟩, 288, some ⟨b, 0, none⟩, 288, ?_, ?_, ?_, fun x hx => by cases hx; exact Or.inr (Or.inr (Or.inr (Or.inl rfl))), fun x hx => by cases hx; exact Or.inr (Or.inr (Or.inr (Or.inr (Or.inl rfl))))⟩
    · exact vl_is a b _ _ (by rw [cdOf_L, fix_len.1]) (by rw [cdOf_C, cl1]) _ (cdOf_W fixL)
    · rw [cdOf_L, fix_len.1]; exact ia
    · rw [cdOf_C, cl1]; exact ib
  · refine ⟨some ⟨c, 0, none⟩, 32, some ⟨d, 0, none⟩, 32, ?_, ?_, ?_, fun x hx => by cases hx; exact Or.inr (Or.inr (Or.inr (Or.inr (Or.inr (Or.inl rfl))))), fun x hx => by cases hx; exact Or.inr (Or.inr (Or.inr (Or.inr (Or.inr (Or.inr rfl)))))⟩
    · exact vd_is c d _ _ (by rw [cdOf_L, fix_len.2]) (by rw [cdOf_C, cd1]) _ (cdOf_W fixD)
    · rw [cdOf_L, fix_len.2]; exact ic
    · rw [cdOf_C, cd1]; exact id
theorem selL_down {n j : Nat} (h : n < (lengthP (j + 1)).1) : selL n (j + 1) = selL n j := by rw [selL, if_pos h]
theorem selL_stay {n j : Nat} (h : (lengthP j).1 ≤ n) : selL n j = j := by
  cases j with
  | zero => rfl
  | succ j => rw [selL, if_neg (by omega)]
theorem selD_down {n j : Nat} (h : n < (distP (j + 1)).1) : selD n (j + 1) = selD n j := by rw [selD, if_pos h]
theorem selD_stay {n j : Nat} (h : (distP j).1 ≤ n) : selD n j = j := by
  cases j with
  | zero => rfl
  | succ j => rw [selD, if_neg (by omega)]
end Go.Proofs.YtpmoknnhgginjaaDoor.Law

/- The walk of FlateStored. -/
namespace Go.Proofs.YtpmoknnhgginjaaDoor.Law
open Go.RowKit Lzz Ref Pr Rt
set_option linter.unusedVariables false

theorem storRow_len (parts : List (List Nat)) (n i : Nat) (hp : ∀ p ∈ parts.take i, p.length ≤ 1000) (hi : i ≤ parts.length) : (storRow parts n i).length ≤ 9000 * i := by
  induction i with
  | zero => simp [storRow]
  | succ i ih =>
    have h1 := ih (fun p hp' => hp p (by rw [List.take_add_one]; exact List.mem_append_left _ hp')) (by omega)
    have hg : parts[i]? = some (parts.getD i []) := by rw [List.getD_eq_getElem?_getD, List.getElem?_eq_getElem (show i < parts.length by omega)]; rfl
    have h2 := hp (parts.getD i []) (by rw [List.take_add_one, hg]; simp)
    rw [storRow, List.length_append, storBits_length]
    omega
theorem flat_len (parts : List (List Nat)) (i : Nat) (hp : ∀ p ∈ parts.take i, p.length ≤ 1000) : (parts.take i).flatten.length ≤ 1000 * i := by
  have h : ∀ (l : List (List Nat)), (∀ p ∈ l, p.length ≤ 1000) → l.flatten.length ≤ 1000 * l.length := by
    intro l
    induction l with
    | nil => intro _; simp
    | cons x l ih =>
      intro h
      have h1 := ih (fun p hp => h p (by simp [hp]))
      have h2 := h x (by simp)
      simp only [List.flatten_cons, List.length_append, List.length_cons]
      omega
  have h1 := h _ hp
  have h2 : (parts.take i).length ≤ i := by simp; omega
  have := Nat.mul_le_mul_left 1000 h2
  omega
theorem told_bytes {W W' : World} {L : List Bool} {e : Ending} (h : Bi.Told W (Bi.packed false L) e W') : ∃ aa c, e = .returned (.slice aa (Bi.packedN false L).length c) ∧ W'.ownsRow W.heap.size 5 1 (.slice aa (Bi.packedN false L).length c) (Bi.packedN false L).length (bys (Bi.packedN false L)) ∧ Below W.heap.size W W' := by
  obtain ⟨aa, c, h1, h2, h3⟩ := h
  have e1 : (Bi.packed false L).length = (Bi.packedN false L).length := by rw [Bi.packed_eq, List.length_map]
  have e2 : (Bi.packed false L).map (Value.int .u8) = bys (Bi.packedN false L) := by rw [Bi.packed_eq, List.map_map]; rfl
  rw [e1] at h1 h2
  rw [e2] at h2
  exact ⟨aa, c, h1, h2, h3⟩

set_option maxRecDepth 100000 in
set_option maxHeartbeats 400000 in
theorem stored_out (w : World) (a : Option Addr) (n c : Nat) (h : n < 1 ∨ 30 < n) : Calls Tryd.prog 3 #[.slice a n c] w (Yes w) := by
  have CA := Lib.hid (anchor_any w)
  by_cases h1 : n < 1
  · have u : decide (n < 1) = true := by simpa using h1
    have u2 : decide ((n : Int) < 1) = true := by simp; omega
    go_enter Tryd.func3, Tryd.ntmps3
    go_wp2_with fail
    refine CA.out.mono ?_
    rintro e w1 ⟨rfl, hb⟩
    have H := Lib.hid hb
    clear hb CA h
    go_wp2_with fail
    go_ret
    exact ⟨rfl, H.out⟩
  · have h2 : 30 < n := by omega
    have u : decide (n < 1) = false := by simp; omega
    have u2 : decide ((n : Int) < 1) = false := by simp; omega
    have u3 : decide ((30 : Int) < (n : Int)) = true := by simp; omega
    go_enter Tryd.func3, Tryd.ntmps3
    go_wp2_with fail
    refine CA.out.mono ?_
    rintro e w1 ⟨rfl, hb⟩
    have H := Lib.hid hb
    clear hb CA h
    go_wp2_with fail
    go_ret
    exact ⟨rfl, H.out⟩

theorem inflOk_mono {T T' : Prop} (h : T → T') {tab : St → (List Int × List Int) × St} {ys : List Nat} {most : Int} : ∀ (f : Nat) (s : St), inflOk T tab ys most f s → inflOk T' tab ys most f s
  | 0, _ => fun _ => trivial
  | f + 1, s => fun hk => ⟨fun h2 => h (hk.1 h2), fun h2 h3 => inflOk_mono h f _ (hk.2 h2 h3)⟩
set_option maxRecDepth 100000 in
set_option maxHeartbeats 6400000 in
theorem stored_good (w : World) (a : Option Addr) (n c : Nat) (parts : List (List Nat)) (hT : Su.Texts w a n parts) (h1 : 1 ≤ n) (h30 : n ≤ 30) : Calls Tryd.prog 3 #[.slice a n c] w (Yes w) := by
  have CA := Lib.hid (anchor_any w)
  have HT := Lib.hid hT
  have HN := Lib.hid hT.1
  have hbyte : ∀ p ∈ parts, ∀ x ∈ p, x < 256 := by
    intro p hp x hx
    have h := hT.byte parts.length x
    rw [List.take_of_length_le (Nat.le_refl _), List.mem_flatten] at h
    exact h ⟨p, hp, hx⟩
  have HBY := Lib.hid hbyte
  have u : decide (n < 1) = false := by simp; omega
  have u2 : decide ((n : Int) < 1) = false := by simp; omega
  have u3 : decide ((30 : Int) < (n : Int)) = false := by simp; omega
  clear hT hbyte
  go_enter Tryd.func3, Tryd.ntmps3
  go_wp2_with fail
  refine CA.out.mono ?_
  rintro e w1 ⟨rfl, hb1⟩
  have H1 := Lib.hid hb1
  have CN := Lib.hid (Bi.new_any w1 w.heap.size hb1.size false)
  clear hb1 CA
  go_wp2_with fail
  refine CN.out.mono ?_
  rintro e w2 ⟨rfl, hw, hsz, hk⟩
  obtain ⟨P, hP⟩ : ∃ P, P = w1.heap.size := ⟨_, rfl⟩
  rw [← hP] at hw ⊢
  have HS := Lib.hid (show Sm w P [] [] (.slice none 0 0) w2 from ⟨none, hw, World.ownsRow_nil _ _ _ _, by simp [Value.ownBlock], fun k hk => by simp [Value.ownBlock] at hk, H1.out.trans (hk.below H1.out.size (fun _ _ h => h))⟩)
  clear hw hsz hk hP CN u u2 u3
  go_wp2_with fail
  go_loopw [4, 29] (fun sv kv wl => ∃ (i : Nat) (aa : Option Addr) (cap : Nat), i ≤ n ∧ kv = .int .i64 i ∧ sv = .slice aa (parts.take i).flatten.length cap ∧ Sm w P (storRow parts n i) (parts.take i).flatten (.slice aa (parts.take i).flatten.length cap) wl ∧ ∀ p ∈ parts.take i, p.length ≤ 1000) (fun _ kv _ => n - (intOf kv).toNat)
  case atStart => exact ⟨0, none, 0, Nat.zero_le _, rfl, rfl, HS.out, by simp⟩
  case round =>
    clear HS
    obtain ⟨i, aa, cap, hi, rfl, rfl, hS, hps⟩ := hrel
    by_cases hlt : i < n
    · obtain ⟨p, b, off, a', m, c', hp, rfl, hcell0, hm, hby⟩ := HT.out.at hlt
      have hcell := (World.cell?_of_block (w := w) (hS.below.block _ (World.block_lt_of_cell? w _ hcell0))).trans hcell0
      clear hcell0
      have hml : p.length = m := hby.1
      have hLl := storRow_len parts n i hps (by have := HN.out; omega)
      have hfl := flat_len parts i hps
      by_cases hbig : 1000 < m
      · have u : decide ((1000 : Int) < (m : Int)) = true := by simp; omega
        have X := Lib.hid hS.below
        clear hS hps hby hp
        go_wp2_with fail
        go_ret
        exact ⟨rfl, X.out⟩
      · have u : decide ((1000 : Int) < (m : Int)) = false := by simp; omega
        obtain ⟨last, hlast⟩ : ∃ last, last = (if i + 1 = n then 1 else 0) := ⟨_, rfl⟩
        have hl2 : last < 2 := by rw [hlast]; split <;> omega
        obtain ⟨L0, hL0⟩ : ∃ L0, L0 = storRow parts n i := ⟨_, rfl⟩
        obtain ⟨al, hal⟩ : ∃ al, al = (parts.take i).flatten := ⟨_, rfl⟩
        rw [← hal, ← hL0] at hS
        rw [← hL0] at hLl
        rw [← hal] at hfl
        rw [← hal]
        obtain ⟨ol, hol⟩ : ∃ ol, ol = al.length := ⟨_, rfl⟩
        rw [← hol] at hS hfl
        rw [← hol]
        have hb8 : i ≤ 30 := by omega
        have hL8 : L0.length ≤ 270000 := by omega
        have HDEF := Lib.hid (And.intro hlast (And.intro hL0 (And.intro hal hol)))
        have HPS := Lib.hid hps
        have HP := Lib.hid hp
        have HBYT := Lib.hid hby
        have HML := Lib.hid hml
        have HBE := Lib.hid hS.below
        have C1 := Lib.hid (sm_put hS (by omega) last 1 (by omega) (by omega))
        have hand : bits .and .i64 (i : Int) 1 = ((i % 2 : Nat) : Int) := Hu.i64_odd i (by omega)
        have hsub : IntKind.i64.wrap ((n : Int) - 1) = (n : Int) - 1 := wrap_i64 _ (by omega) (by omega)
        obtain ⟨q, hq⟩ : ∃ q, q = 65535 - m := ⟨_, rfl⟩
        have hq2 : (65535 : Int) - (m : Int) = (q : Int) := by omega
        have hq3 : IntKind.i64.wrap (q : Int) = (q : Int) := wrap_i64 _ (by omega) (by omega)
        have hq65 : q ≤ 65535 := by omega
        have HQ := Lib.hid hq
        have HBYT0 := Lib.hid (show Bytes w a' m p from hby)
        clear hS hps hp hby hlast hL0 hal hol hml hq
        by_cases hend : i + 1 = n
        · obtain rfl : last = 1 := by have := HDEF.out.1; rw [if_pos hend] at this; exact this
          have t1 : (n : Int) - 1 = (i : Int) := by omega
          go_wp2_with fail
          refine C1.out.mono ?_
          rintro e3 w3 ⟨rfl, hs3⟩
          have C2 := Lib.hid (sm_put hs3 (by simp only [List.length_append, Bi.lowr_length]; omega) 0 2 (by omega) (by omega))
          clear hs3 C1
          go_wp2_with fail
          refine C2.out.mono ?_
          rintro e4 w4 ⟨rfl, hs4⟩
          have C3 := Lib.hid (sm_fill hs4 (by simp only [List.length_append, Bi.lowr_length]; omega) (i % 2) (by omega))
          clear hs4 C2
          go_wp2_with fail
          refine C3.out.mono ?_
          rintro e5 w5 ⟨rfl, hs5⟩
          have C4 := Lib.hid (sm_put hs5 (by simp only [List.length_append, Bi.lowr_length, List.length_replicate]; omega) m 16 (by omega) (by omega))
          clear hs5 C3
          go_wp2_with fail
          refine C4.out.mono ?_
          rintro e6 w6 ⟨rfl, hs6⟩
          have C5 := Lib.hid (sm_put hs6 (by simp only [List.length_append, Bi.lowr_length, List.length_replicate]; omega) q 16 (by omega) (by omega))
          clear hs6 C4
          go_wp2_with fail
          refine C5.out.mono ?_
          rintro e7 w7 ⟨rfl, hs7⟩
          obtain ⟨Lh, hLh⟩ : ∃ Lh, Lh = L0 ++ Bi.lowr 1 1 ++ Bi.lowr 0 2 ++ List.replicate ((8 - (L0 ++ Bi.lowr 1 1 ++ Bi.lowr 0 2).length % 8) % 8) (decide (i % 2 % 2 = 1)) ++ Bi.lowr m 16 ++ Bi.lowr q 16 := ⟨_, rfl⟩
          rw [← hLh] at hs7
          have hLhl : Lh.length ≤ 280000 := by rw [hLh]; simp only [List.length_append, Bi.lowr_length, List.length_replicate]; omega
          have HLH := Lib.hid hLh
          have HS7 := Lib.hid hs7
          clear hs7 C5 hLh hand
          go_wp2_with fail
          go_loopw [62] (fun kv wl => ∃ j : Nat, j ≤ m ∧ kv = .int .i64 j ∧ Sm w P (Lh ++ bytesBits (p.take j)) al (.slice aa ol cap) wl) (fun kv _ => m - (intOf kv).toNat)
          case atStart => exact ⟨0, Nat.zero_le _, rfl, by simpa [bytesBits] using HS7.out⟩
          case round =>
            clear HS7 hcell
            obtain ⟨wo, hwo⟩ : ∃ wo : World, wo = wr := ⟨_, rfl⟩
            obtain ⟨j, hj, rfl, hs⟩ := hrel
            by_cases hjm : j < m
            · obtain ⟨b2, o2, y, rfl, hy, hy256, hcy⟩ := (HBYT0.out.below hs.below).at hjm
              have hlen : (Lh ++ bytesBits (p.take j)).length ≤ 16777216 := by
                rw [List.length_append, bytesBits_length, List.length_take]
                omega
              have C6 := Lib.hid (sm_put hs hlen y 8 (by omega) (by omega))
              have HMORE := Lib.hid (show Lh ++ bytesBits (p.take j) ++ Bi.lowr y 8 = Lh ++ bytesBits (p.take (j + 1)) from by
                rw [List.take_add_one, hy]
                simp [bytesBits])
              clear hs hy hlen
              go_wp2_with fail
              refine C6.out.mono ?_
              rintro e8 w8 ⟨rfl, hs8⟩
              rw [HMORE.out] at hs8
              have X := Lib.hid hs8
              clear hs8 C6 hcy
              go_wp2_with fail
              go_roundw
              case rel => exact ⟨j + 1, hjm, by go_num, X.out⟩
              case measure => simp [intOf] <;> omega
            · obtain rfl : j = m := by omega
              have hpt : p.take j = p := List.take_of_length_le (by rw [HML.out]; exact Nat.le_refl _)
              rw [hpt] at hs
              have HS8 := Lib.hid hs
              have HPT := Lib.hid hpt
              have hbw := HBYT0.out.below hs.below
              have hown : wr.ownsRow w.heap.size 5 1 (.slice aa ol cap) ol (bys al) := by
                obtain ⟨D, q1, q2, _⟩ := hs
                rw [← HDEF.out.2.2.2] at q2
                exact q2
              have HOWN := Lib.hid hown
              have HBW := Lib.hid hbw
              have hwsz : w.heap.size ≤ wr.heap.size := hs.below.size
              have hm' := hm
              clear hs hpt hbw hown
              go_wp2_with (at_builtin; go_must (refine wpList_append_text rfl (.tmp 71) (.tmp 72) rfl w.heap.size ol (.slice aa ol cap) al rfl ?f1 a' j c' p rfl ?f2 hm.2 (by omega) (by omega) ?f3 ?f4))
              case f1 => exact HOWN.out
              case f2 => exact HBW.out
              case f3 => exact hwsz
              case f4 =>
                intro aa2 cap2 w9 hown9 hg9 hat9
                have hS9 := HS8.out.grow (show ol + j = al.length + p.length by rw [HML.out, HDEF.out.2.2.2]) hown9 hg9 hat9 (Nat.le_refl _)
                have X := Lib.hid hS9
                clear hown9 hg9 hat9 hS9
                go_wp2_with fail
                go_roundw
                case rel =>
                  have hfl2 : (parts.take (i + 1)).flatten = al ++ p := by rw [List.take_add_one, HP.out, HDEF.out.2.2.1]; simp
                  have hln2 : (parts.take (i + 1)).flatten.length = ol + j := by rw [hfl2, List.length_append, HML.out, HDEF.out.2.2.2]
                  have hgd : parts.getD i [] = p := by rw [List.getD_eq_getElem?_getD, HP.out]; rfl
                  have hrow : storRow parts n (i + 1) = Lh ++ bytesBits p := by
                    rw [storRow, ← HDEF.out.2.1, hgd, HLH.out]
                    unfold storBits
                    rw [← HDEF.out.1, HML.out, ← HQ.out]
                    simp only [List.append_assoc, List.length_append, Bi.lowr_length, Nat.mod_mod, Nat.add_assoc, Nat.reduceAdd]
                  refine ⟨i + 1, aa2, cap2, hlt, by go_num, by rw [hln2], ?_, fun p' hp' => ?_⟩
                  · rw [hln2, hrow, hfl2]; exact X.out
                  · rw [List.take_add_one, HP.out] at hp'
                    rcases List.mem_append.1 hp' with h | h
                    · exact HPS.out p' h
                    · have h' : p' = p := by simpa using h
                      rw [h', HML.out]
                      omega
                case measure => simp [intOf] <;> omega
        · obtain rfl : last = 0 := by have := HDEF.out.1; rw [if_neg hend] at this; exact this
          obtain ⟨n1, hn1⟩ : ∃ n1, n1 = n - 1 := ⟨_, rfl⟩
          have t1 : (n : Int) - 1 = (n1 : Int) := by omega
          have t2 : ((i : Int) == (n1 : Int)) = false := by simp; omega
          have t3 : decide ((i : Int) = (n1 : Int)) = false := by simp; omega
          have t4 : decide (i = n1) = false := by simp; omega
          have t5 : (i == n1) = false := by simp; omega
          have HN1 := Lib.hid hn1
          clear hn1
          go_wp2_with fail
          refine C1.out.mono ?_
          rintro e3 w3 ⟨rfl, hs3⟩
          have C2 := Lib.hid (sm_put hs3 (by simp only [List.length_append, Bi.lowr_length]; omega) 0 2 (by omega) (by omega))
          clear hs3 C1
          go_wp2_with fail
          refine C2.out.mono ?_
          rintro e4 w4 ⟨rfl, hs4⟩
          have C3 := Lib.hid (sm_fill hs4 (by simp only [List.length_append, Bi.lowr_length]; omega) (i % 2) (by omega))
          clear hs4 C2
          go_wp2_with fail
          refine C3.out.mono ?_
          rintro e5 w5 ⟨rfl, hs5⟩
          have C4 := Lib.hid (sm_put hs5 (by simp only [List.length_append, Bi.lowr_length, List.length_replicate]; omega) m 16 (by omega) (by omega))
          clear hs5 C3
          go_wp2_with fail
          refine C4.out.mono ?_
          rintro e6 w6 ⟨rfl, hs6⟩
          have C5 := Lib.hid (sm_put hs6 (by simp only [List.length_append, Bi.lowr_length, List.length_replicate]; omega) q 16 (by omega) (by omega))
          clear hs6 C4
          go_wp2_with fail
          refine C5.out.mono ?_
          rintro e7 w7 ⟨rfl, hs7⟩
          obtain ⟨Lh, hLh⟩ : ∃ Lh, Lh = L0 ++ Bi.lowr 0 1 ++ Bi.lowr 0 2 ++ List.replicate ((8 - (L0 ++ Bi.lowr 0 1 ++ Bi.lowr 0 2).length % 8) % 8) (decide (i % 2 % 2 = 1)) ++ Bi.lowr m 16 ++ Bi.lowr q 16 := ⟨_, rfl⟩
          rw [← hLh] at hs7
          have hLhl : Lh.length ≤ 280000 := by rw [hLh]; simp only [List.length_append, Bi.lowr_length, List.length_replicate]; omega
          have HLH := Lib.hid hLh
          have HS7 := Lib.hid hs7
          clear hs7 C5 hLh hand
          go_wp2_with fail
          go_loopw [62] (fun kv wl => ∃ j : Nat, j ≤ m ∧ kv = .int .i64 j ∧ Sm w P (Lh ++ bytesBits (p.take j)) al (.slice aa ol cap) wl) (fun kv _ => m - (intOf kv).toNat)
          case atStart => exact ⟨0, Nat.zero_le _, rfl, by simpa [bytesBits] using HS7.out⟩
          case round =>
            clear HS7 hcell
            obtain ⟨wo, hwo⟩ : ∃ wo : World, wo = wr := ⟨_, rfl⟩
            obtain ⟨j, hj, rfl, hs⟩ := hrel
            by_cases hjm : j < m
            · obtain ⟨b2, o2, y, rfl, hy, hy256, hcy⟩ := (HBYT0.out.below hs.below).at hjm
              have hlen : (Lh ++ bytesBits (p.take j)).length ≤ 16777216 := by
                rw [List.length_append, bytesBits_length, List.length_take]
                omega
              have C6 := Lib.hid (sm_put hs hlen y 8 (by omega) (by omega))
              have HMORE := Lib.hid (show Lh ++ bytesBits (p.take j) ++ Bi.lowr y 8 = Lh ++ bytesBits (p.take (j + 1)) from by
                rw [List.take_add_one, hy]
                simp [bytesBits])
              clear hs hy hlen
              go_wp2_with fail
              refine C6.out.mono ?_
              rintro e8 w8 ⟨rfl, hs8⟩
              rw [HMORE.out] at hs8
              have X := Lib.hid hs8
              clear hs8 C6 hcy
              go_wp2_with fail
              go_roundw
              case rel => exact ⟨j + 1, hjm, by go_num, X.out⟩
              case measure => simp [intOf] <;> omega
            · obtain rfl : j = m := by omega
              have hpt : p.take j = p := List.take_of_length_le (by rw [HML.out]; exact Nat.le_refl _)
              rw [hpt] at hs
              have HS8 := Lib.hid hs
              have HPT := Lib.hid hpt
              have hbw := HBYT0.out.below hs.below
              have hown : wr.ownsRow w.heap.size 5 1 (.slice aa ol cap) ol (bys al) := by
                obtain ⟨D, q1, q2, _⟩ := hs
                rw [← HDEF.out.2.2.2] at q2
                exact q2
              have HOWN := Lib.hid hown
              have HBW := Lib.hid hbw
              have hwsz : w.heap.size ≤ wr.heap.size := hs.below.size
              have hm' := hm
              clear hs hpt hbw hown
              go_wp2_with (at_builtin; go_must (refine wpList_append_text rfl (.tmp 71) (.tmp 72) rfl w.heap.size ol (.slice aa ol cap) al rfl ?f1 a' j c' p rfl ?f2 hm.2 (by omega) (by omega) ?f3 ?f4))
              case f1 => exact HOWN.out
              case f2 => exact HBW.out
              case f3 => exact hwsz
              case f4 =>
                intro aa2 cap2 w9 hown9 hg9 hat9
                have hS9 := HS8.out.grow (show ol + j = al.length + p.length by rw [HML.out, HDEF.out.2.2.2]) hown9 hg9 hat9 (Nat.le_refl _)
                have X := Lib.hid hS9
                clear hown9 hg9 hat9 hS9
                go_wp2_with fail
                go_roundw
                case rel =>
                  have hfl2 : (parts.take (i + 1)).flatten = al ++ p := by rw [List.take_add_one, HP.out, HDEF.out.2.2.1]; simp
                  have hln2 : (parts.take (i + 1)).flatten.length = ol + j := by rw [hfl2, List.length_append, HML.out, HDEF.out.2.2.2]
                  have hgd : parts.getD i [] = p := by rw [List.getD_eq_getElem?_getD, HP.out]; rfl
                  have hrow : storRow parts n (i + 1) = Lh ++ bytesBits p := by
                    rw [storRow, ← HDEF.out.2.1, hgd, HLH.out]
                    unfold storBits
                    rw [← HDEF.out.1, HML.out, ← HQ.out]
                    simp only [List.append_assoc, List.length_append, Bi.lowr_length, Nat.mod_mod, Nat.add_assoc, Nat.reduceAdd]
                  refine ⟨i + 1, aa2, cap2, hlt, by go_num, by rw [hln2], ?_, fun p' hp' => ?_⟩
                  · rw [hln2, hrow, hfl2]; exact X.out
                  · rw [List.take_add_one, HP.out] at hp'
                    rcases List.mem_append.1 hp' with h | h
                    · exact HPS.out p' h
                    · have h' : p' = p := by simpa using h
                      rw [h', HML.out]
                      omega
                case measure => simp [intOf] <;> omega
    · obtain rfl : i = n := by omega
      have hpl : parts.length = i := HN.out
      have htk : parts.take i = parts := List.take_of_length_le (by omega)
      have hLl := storRow_len parts i i hps (by omega)
      have hfl := flat_len parts i hps
      rw [htk] at hS hps hfl ⊢
      have hall := stor_all (T := ∀ P R D w1, ToldOK w1 P R D (Bi.packedN false (storRow parts i i)) (parts.flatten.length : Nat) noTab) (tab := noTab) (most := ((parts.flatten.length : Nat) : Int)) parts i hpl h1 HBY.out (fun p hp => by have := hps p hp; omega) (Int.le_refl _) i 0 (8 * (Bi.packedN false (storRow parts i i)).length + 1) (by omega) (by omega) (by
        rw [Bi.packedN_length]
        have h9 : ∀ k, k ≤ i → k ≤ (storRow parts i k).length := by
          intro k
          induction k with
          | zero => intro _; omega
          | succ k ih =>
            intro hk
            have := ih (by omega)
            rw [storRow, List.length_append, storBits_length]
            omega
        have := h9 i (Nat.le_refl _)
        omega)
      have hst0 : (⟨(storRow parts i 0).length, (parts.take 0).flatten, 0⟩ : St) = ⟨0, [], 0⟩ := rfl
      rw [hst0] at hall
      obtain ⟨al, hal⟩ : ∃ al, al = parts.flatten := ⟨_, rfl⟩
      rw [← hal] at hS hfl hall ⊢
      obtain ⟨L, hL⟩ : ∃ L, L = storRow parts i i := ⟨_, rfl⟩
      rw [← hL] at hS hLl hall
      have HALL := Lib.hid hall
      have HALB := Lib.hid (show ∀ x ∈ al, x < 256 from by
        intro x hx
        rw [hal, List.mem_flatten] at hx
        obtain ⟨p, hp, hx⟩ := hx
        exact HBY.out p hp x hx)
      obtain ⟨D, s1, s2, s3, s4, s5⟩ := hS
      have CB := Lib.hid (Bi.bytes_any wr w.heap.size P D false L s1 (by omega))
      have HO := Lib.hid (And.intro s2 s5)
      obtain ⟨ol, hol⟩ : ∃ ol, ol = al.length := ⟨_, rfl⟩
      rw [← hol] at hfl ⊢
      have HOL := Lib.hid hol
      clear hps hall hal hL s1 s2 s3 s4 s5 htk hol hpl
      go_wp2_with fail
      refine CB.out.mono ?_
      intro e3 w3 h3
      obtain ⟨bb, cb, rfl, hown3, hb3⟩ := told_bytes h3
      obtain ⟨ys, hys⟩ : ∃ ys, ys = Bi.packedN false L := ⟨_, rfl⟩
      have hyb : ∀ y ∈ ys, y < 256 := by rw [hys]; exact Bi.packedN_byte false L
      have hyl : ys.length = (L.length + 7) / 8 := by rw [hys]; exact Bi.packedN_length false L
      rw [← hys] at hown3 ⊢
      have hby3 := (bytes_of_own hown3 hyb).1
      have hal2 := HALL.out
      rw [← hys, HOL.out.symm] at hal2
      have CI := Lib.hid (inflate_any w3 bb ys.length cb ys hby3 (by omega) ol (by omega) noTab noTab_on (by
        have h := hal2.2
        refine inflOk_mono (fun hT P R D => hT P R D w3) _ _ h))
      rw [hal2.1] at CI
      have HB3 := Lib.hid (And.intro hb3 hyl)
      obtain ⟨yl, hyl2⟩ : ∃ yl, yl = ys.length := ⟨_, rfl⟩
      rw [← hyl2] at CI ⊢
      have HYL := Lib.hid (And.intro hyl2 hyl)
      clear h3 hown3 hb3 hyb hyl hby3 hal2 CB hys hyl2
      go_wp2_with fail
      refine CI.out.mono ?_
      rintro e4 w4 ⟨hb4, -, -, -, hcase⟩
      rcases hcase with ⟨he, -⟩ | ⟨-, dd, cd, rfl, hown4⟩
      · exact absurd rfl he
      have hb34 : Below wr.heap.size wr w4 := below_more HB3.out.1 hb4 (Nat.le_refl _)
      have hx := (bytes_of_own hown4 HALB.out).1
      have hz := (bytes_of_own (own_kept2 HO.out.1 (fun g e => hb34.block g (own_lt2 HO.out.1 g e).2)) HALB.out).1
      simp only at hx
      rw [← HOL.out] at hx hz ⊢
      have CS := Lib.hid (same_yes w4 dd ol cd aa cap al hx hz (by omega))
      have HF := Lib.hid (show Below w.heap.size w w4 from below_more HO.out.2 hb34 (Nat.le_refl _))
      have hus : (L.length + 7) / 8 = yl := by rw [HYL.out.1, HYL.out.2]
      rw [hus]
      clear hb4 hown4 hb34 hx hz CI hus
      go_wp2_with fail
      refine CS.out.mono ?_
      rintro e5 w5 ⟨rfl, q5, rfl⟩
      have HF2 := Lib.hid (show Below w.heap.size w (w4.drewN q5) from HF.out.trans ⟨rfl, rfl, rfl, Nat.le_refl _, fun _ _ => rfl⟩)
      generalize w4.drewN q5 = w6 at *
      go_wp2_with fail
      go_ret
      exact ⟨rfl, HF2.out⟩
end Go.Proofs.YtpmoknnhgginjaaDoor.Law

/- The walk of FlateCopies. -/
namespace Go.Proofs.YtpmoknnhgginjaaDoor.Law
open Go.RowKit Lzz Ref Pr Rt
set_option linter.unusedVariables false

/-- Two rows of bytes side by side. -/
def WX (w : World) (va : Value) (all : List Nat) (xv : Value) (xs : List Nat) (W : World) : Prop :=
  W.ownsRow w.heap.size 5 1 va all.length (bys all) ∧ W.ownsRow w.heap.size 5 1 xv xs.length (bys xs) ∧ (∀ g, va.ownBlock = some g → xv.ownBlock ≠ some g) ∧ Below w.heap.size w W
theorem WX.later {w W W2 : World} {va xv : Value} {all xs : List Nat} (h : WX w va all xv xs W) (hb : Below W.heap.size W W2) : WX w va all xv xs W2 := by
  obtain ⟨h1, h2, h3, h4⟩ := h
  exact ⟨own_kept2 h1 (fun g e => hb.block g (own_lt2 h1 g e).2), own_kept2 h2 (fun g e => hb.block g (own_lt2 h2 g e).2), h3, below_more h4 hb (Nat.le_refl _)⟩
theorem WX.grow {w W W2 : World} {va xv : Value} {all xs ds : List Nat} {aa : Option Addr} {cap m M : Nat} (h : WX w va all xv xs W) (hm : m = all.length + ds.length) (hown : W2.ownsRow w.heap.size 5 1 (.slice aa m cap) m (bys (all ++ ds))) (hg : W.grownBy W2 va.ownBlock) (hat : (Value.slice aa m cap).ownBlock = va.ownBlock ∨ (Value.slice aa m cap).ownBlock = some M) (hM : W.heap.size ≤ M) : WX w (.slice aa m cap) (all ++ ds) xv xs W2 := by
  obtain ⟨h1, h2, h3, h4⟩ := h
  refine ⟨by rw [List.length_append, ← hm]; exact hown, own_kept2 h2 (fun g e => hg.block g (own_lt2 h2 g e).2 (fun e2 => h3 g e2.symm e)), fun g hg2 => ?_, grown_below (Nat.le_refl _) h4 hg (fun k e => (own_lt2 h1 k e).1)⟩
  rcases hat with e | e
  · rw [e] at hg2; exact h3 g hg2
  · rw [e] at hg2
    simp only [Option.some.injEq] at hg2
    intro e2
    have := (own_lt2 h2 g e2).2
    omega
theorem own_base {W : World} {B B' n : Nat} {v : Value} {xs : List Value} (h : W.ownsRow B 5 1 v n xs) (hB : B' ≤ B) : W.ownsRow B' 5 1 v n xs := by
  obtain ⟨h1, h2⟩ := h
  refine ⟨h1, ?_⟩
  rcases h2 with h2 | ⟨g, cap, cur, e, hg, r⟩
  · exact Or.inl h2
  · exact Or.inr ⟨g, cap, cur, e, Nat.le_trans hB hg, r⟩
theorem copyN_length (d : Nat) : ∀ (n : Nat) (l : List Nat), (copyN d n l).length = l.length + n
  | 0, l => rfl
  | n + 1, l => by rw [copyN, copyN_length d n]; simp; omega
set_option maxRecDepth 100000 in
set_option maxHeartbeats 6400000 in
theorem copies_good (w : World) (n d lead : Nat) (hn : 3 ≤ n) (hn2 : n ≤ 258) (hd : 1 ≤ d) (hd2 : d ≤ 1000) (hlead : lead ≤ 1000) : Calls Tryd.prog 4 #[.int .i64 n, .int .i64 d, .int .i64 lead] w (Yes w) := by
  have CA := Lib.hid (anchor_any w)
  have u0 : decide ((n : Int) < 3) = false := by simp; omega
  have u1 : decide ((258 : Int) < (n : Int)) = false := by simp; omega
  have u2 : decide ((d : Int) < 1) = false := by simp; omega
  have u3 : decide ((1000 : Int) < (d : Int)) = false := by simp; omega
  have u4 : decide ((lead : Int) < 0) = false := by simp
  have u5 : decide ((1000 : Int) < (lead : Int)) = false := by simp; omega
  go_enter Tryd.func4, Tryd.ntmps4
  go_wp2_with fail
  refine CA.out.mono ?_
  rintro e w1 ⟨rfl, hb1⟩
  have H1 := Lib.hid hb1
  have CN := Lib.hid (Bi.new_any w1 w.heap.size hb1.size false)
  clear hb1 CA
  go_wp2_with fail
  refine CN.out.mono ?_
  rintro e w2 ⟨rfl, hw, hsz, hk⟩
  obtain ⟨P, hP⟩ : ∃ P, P = w1.heap.size := ⟨_, rfl⟩
  rw [← hP] at hw ⊢
  have hbw2 : Below w.heap.size w w2 := H1.out.trans (hk.below H1.out.size (fun _ _ h => h))
  obtain ⟨gw, hgw⟩ : ∃ gw, gw = w2.heap.size := ⟨_, rfl⟩
  obtain ⟨w3, hw3⟩ : ∃ w3, w3 = w2.alloc (.cells #[.pointer (some ⟨P, 0, none⟩)] 24) := ⟨_, rfl⟩
  have hb3 : Below w2.heap.size w2 w3 := by rw [hw3]; exact (Below.refl _ _).alloc (Nat.le_refl _) _
  have hg3 : w3.heap[gw]? = some (.cells #[.pointer (some ⟨P, 0, none⟩)] 24 (0, 0)) := by rw [hw3, hgw]; exact heap_alloc_new _ _
  have x0 : w3.cell? ⟨gw, 0, none⟩ = some (.pointer (some ⟨P, 0, none⟩)) := by simp [World.cell?, hg3]
  have CF := Lib.hid (fixed_any w3)
  have HW2 := Lib.hid (And.intro hw (And.intro hbw2 (And.intro hb3 hg3)))
  clear hw hsz hk hP CN hbw2 hb3 hg3 u0 u1 u2 u3 u4 u5
  go_upto_region 6 with fail
  rw [← hgw, ← hw3]
  clear hgw hw3
  go_wp2_with fail
  refine CF.out.mono ?_
  rintro e w4 ⟨a, b, c, dd, rfl, ia, ib, ic, id, hb4⟩
  obtain ⟨W8, hW8⟩ : ∃ W8, W8 = w4.alloc (.cells #[.slice (some ⟨a, 0, none⟩) 288 288, .slice (some ⟨b, 0, none⟩) 288 288, .int .i64 (Hu.weightZ fixL : Nat), .bool true] 37) := ⟨_, rfl⟩
  obtain ⟨W, hW⟩ : ∃ W, W = W8.alloc (.cells #[.slice (some ⟨c, 0, none⟩) 32 32, .slice (some ⟨dd, 0, none⟩) 32 32, .int .i64 (Hu.weightZ fixD : Nat), .bool true] 37) := ⟨_, rfl⟩
  obtain ⟨B8, hB8⟩ : ∃ B8, B8 = w4.heap.size := ⟨_, rfl⟩
  obtain ⟨B9, hB9⟩ : ∃ B9, B9 = w4.heap.size + 1 := ⟨_, rfl⟩
  have hstart : ∃ K, Sk w P K [] [] (.slice none 0 0) W ∧ CM P K gw B8 B9 a b c dd W := by
    have s8 : W8.heap.size = w4.heap.size + 1 := by rw [hW8]; exact Array.size_push _
    have b8 : Below w4.heap.size w4 W8 := by rw [hW8]; exact (Below.refl _ _).alloc (Nat.le_refl _) _
    have b9 : Below W8.heap.size W8 W := by rw [hW]; exact (Below.refl _ _).alloc (Nat.le_refl _) _
    have b4W : Below w4.heap.size w4 W := below_more b8 b9 (Nat.le_refl _)
    have b3W : Below w3.heap.size w3 W := below_more hb4 b4W (Nat.le_refl _)
    have b2W : Below w2.heap.size w2 W := below_more HW2.out.2.2.1 b3W (Nat.le_refl _)
    refine cm_start (Bi.Raw.kept HW2.out.1 (b2W.block P (Bi.Raw.lt HW2.out.1)) (fun k hk => by cases hk)) (below_more HW2.out.2.1 b2W (Nat.le_refl _)) ((b3W.block gw (lt_of_block HW2.out.2.2.2)).trans HW2.out.2.2.2) ?_ ?_ (ia.below b4W) (ib.below b4W) (ic.below b4W) (id.below b4W)
    · exact (b9.block B8 (by omega)).trans (by rw [hW8, hB8]; exact heap_alloc_new _ _)
    · rw [hW, hB9, ← s8]; exact heap_alloc_new _ _
  obtain ⟨K, hS0, hC0⟩ := hstart
  clear CF x0 ia ib ic id hb4 HW2
  go_upto_region 9 with fail
  rw [← hB9, ← hB8, ← hW8, ← hW]
  clear hW8 hW hB8 hB9
  obtain ⟨wl, hwl⟩ : ∃ wl, wl = Hu.weightZ fixL := ⟨_, rfl⟩
  obtain ⟨wd, hwd⟩ : ∃ wd, wd = Hu.weightZ fixD := ⟨_, rfl⟩
  rw [← hwl, ← hwd]
  have HWL := Lib.hid (And.intro hwl hwd)
  -- the cells, in plain numbers
  have CELLS := Lib.hid (fun (W9 : World) (h : CM P K gw B8 B9 a b c dd W9) => show W9.cell? ⟨gw, 0, none⟩ = some (.pointer (some ⟨P, 0, none⟩)) ∧
    (W9.cell? ⟨B8, 0, none⟩ = some (.slice (some ⟨a, 0, none⟩) 288 288) ∧ W9.cell? ⟨B8, 1, none⟩ = some (.slice (some ⟨b, 0, none⟩) 288 288) ∧ W9.cell? ⟨B8, 2, none⟩ = some (.int .i64 (wl : Nat)) ∧ W9.cell? ⟨B8, 3, none⟩ = some (.bool true)) ∧
    (W9.cell? ⟨B9, 0, none⟩ = some (.slice (some ⟨c, 0, none⟩) 32 32) ∧ W9.cell? ⟨B9, 1, none⟩ = some (.slice (some ⟨dd, 0, none⟩) 32 32) ∧ W9.cell? ⟨B9, 2, none⟩ = some (.int .i64 (wd : Nat)) ∧ W9.cell? ⟨B9, 3, none⟩ = some (.bool true)) from by rw [HWL.out.1, HWL.out.2]; exact h.cells)
  have PUTL := Lib.hid (fun (W9 : World) (L0 : List Bool) (all : List Nat) (va : Value) (hc : CM P K gw B8 B9 a b c dd W9) (h : Sk w P K L0 all va W9) (hl : L0.length ≤ 1000000) (s : Nat) (hs : s < 288) => show Calls Tryd.prog 13 #[.agg #[.slice (some ⟨a, 0, none⟩) 288 288, .slice (some ⟨b, 0, none⟩) 288 288, .int .i64 (wl : Nat), .bool true], .int .i64 s, .pointer (some ⟨gw, 0, none⟩)] W9 (fun e W' => e = .returned (.tuple #[]) ∧ Sk w P K (L0 ++ codeBits (fC s) (fL s)) all va W' ∧ CM P K gw B8 B9 a b c dd W') from by rw [HWL.out.1]; exact hc.putL h hl s hs)
  have PUTD := Lib.hid (fun (W9 : World) (L0 : List Bool) (all : List Nat) (va : Value) (hc : CM P K gw B8 B9 a b c dd W9) (h : Sk w P K L0 all va W9) (hl : L0.length ≤ 1000000) (s : Nat) (hs : s < 32) => show Calls Tryd.prog 13 #[.agg #[.slice (some ⟨c, 0, none⟩) 32 32, .slice (some ⟨dd, 0, none⟩) 32 32, .int .i64 (wd : Nat), .bool true], .int .i64 s, .pointer (some ⟨gw, 0, none⟩)] W9 (fun e W' => e = .returned (.tuple #[]) ∧ Sk w P K (L0 ++ codeBits (gC s) 5) all va W' ∧ CM P K gw B8 B9 a b c dd W') from by rw [HWL.out.2]; exact hc.putD h hl s hs)
  obtain ⟨x0, -, -⟩ := CELLS.out W hC0
  have C3 := Lib.hid (hC0.putN hS0 (by simp) 3 3 (by omega) (by omega))
  clear hS0 hC0 hwl hwd
  go_wp2_with fail
  refine C3.out.mono ?_
  rintro e5 w5 ⟨rfl, hs5, hc5⟩
  have HS5 := Lib.hid (And.intro hs5 hc5)
  clear hs5 hc5 C3 x0
  go_wp2_with fail
  go_loopw [11, 12] (fun sv kv wo => ∃ (k : Nat) (aa : Option Addr) (cap : Nat), k ≤ lead ∧ kv = .int .i64 k ∧ sv = .slice aa k cap ∧ Sk w P K (Bi.lowr 3 3 ++ leadBits k) (leadOut k) (.slice aa k cap) wo ∧ CM P K gw B8 B9 a b c dd wo) (fun _ kv _ => lead - (intOf kv).toNat)
  case atStart => exact ⟨0, none, 0, Nat.zero_le _, rfl, rfl, by simpa [leadBits, leadOut] using HS5.out.1, HS5.out.2⟩
  case round =>
    clear HS5
    obtain ⟨k, aa, cap, hk, rfl, rfl, hS, hC⟩ := hrel
    obtain ⟨x0, ⟨y0, y1, y2, y3⟩, ⟨z0, z1, z2, z3⟩⟩ := CELLS.out wr hC
    have hlb := leadBits_length k
    by_cases hlt : k < lead
    · obtain ⟨m, hm⟩ : ∃ m, m = k % 251 := ⟨_, rfl⟩
      have hm251 : m < 251 := by rw [hm]; exact Nat.mod_lt _ (by omega)
      have q1 : (k : Int).tmod 251 = (m : Int) := by rw [hm]; rfl
      have C4 := Lib.hid (PUTL.out wr _ _ _ hC hS (by rw [List.length_append, Bi.lowr_length]; omega) m (by omega))
      have HM := Lib.hid hm
      have hu8 : IntKind.u8.wrap (m : Int) = (m : Int) := by simp [IntKind.wrap, IntKind.bits, IntKind.signed]; omega
      clear hS hC hm hlb
      go_wp2_with fail
      refine C4.out.mono ?_
      rintro e6 w6 ⟨rfl, hs6, hc6⟩
      have hrow : Bi.lowr 3 3 ++ leadBits k ++ codeBits (fC m) (fL m) = Bi.lowr 3 3 ++ leadBits (k + 1) := by rw [leadBits_succ, HM.out, List.append_assoc]
      rw [hrow] at hs6
      have hown : w6.ownsRow w.heap.size 5 1 (.slice aa k cap) k (bys (leadOut k)) := by
        obtain ⟨D, q1, q2, _⟩ := hs6
        rw [leadOut_length] at q2
        exact q2
      have HS6 := Lib.hid (And.intro hs6 hc6)
      have HO := Lib.hid hown
      have hwsz : w.heap.size ≤ w6.heap.size := hs6.below.size
      have WA := Lib.hid (show Below w6.heap.size w6 (w6.alloc (.cells #[.int .u8 (m : Nat)] 5)) from (Below.refl _ _).alloc (Nat.le_refl _) _)
      have OB := Lib.hid (one_byte w6 m (by omega))
      have hS7 := hs6.made WA.out
      have HS7 := Lib.hid (And.intro (hS7.1.weaker (K' := K) (fun k hk => Or.inl hk)) (hc6.keep hS7.2))
      clear hs6 hc6 C4 hrow hown hS7 x0 y0 y1 y2 y3 z0 z1 z2 z3
      go_wp2_with (at_builtin; go_must (refine wpList_append_text rfl (.tmp 64) (.tmp 68) rfl w.heap.size k (.slice aa k cap) (leadOut k) rfl ?f1 (some ⟨w6.heap.size, 0, none⟩) 1 1 [m] rfl ?f2 (by intro e; cases e) (by omega) (by omega) ?f3 ?f4))
      case f1 => exact own_kept2 HO.out (fun g e => WA.out.block g (own_lt2 HO.out g e).2)
      case f2 => exact OB.out
      case f3 => first | (simp; omega) | omega | exact Nat.le_succ_of_le hwsz
      case f4 =>
        intro aa2 cap2 w9 hown9 hg9 hat9
        obtain ⟨g1, g2⟩ := HS7.out.1.grow (show k + 1 = (leadOut k).length + [m].length by rw [leadOut_length]; rfl) hown9 hg9 hat9 (Nat.le_of_eq (Array.size_push _))
        have X := Lib.hid (show Sk w P K (Bi.lowr 3 3 ++ leadBits (k + 1)) (leadOut (k + 1)) (.slice aa2 (k + 1) cap2) w9 ∧ CM P K gw B8 B9 a b c dd w9 from ⟨by rw [leadOut_succ, ← HM.out]; exact g1, HS7.out.2.keep g2⟩)
        clear hown9 hg9 hat9 g1 g2
        go_wp2_with fail
        go_roundw
        case rel => exact ⟨k + 1, aa2, cap2, hlt, by go_num, rfl, X.out⟩
        case measure => simp [intOf] <;> omega
    · obtain rfl : k = lead := by omega
      have HSC := Lib.hid (And.intro hS hC)
      have CL := Lib.hid (fun j hj => length_any wr j hj)
      have CD := Lib.hid (fun t ht => distance_any wr t ht)
      have CL28 := Lib.hid (length_any wr 28 (by omega))
      have hl28 : lengthP 28 = (258, 0) := by decide
      clear hS hC y0 y1 y2 y3 z0 z1 z2 z3 x0 hlb
      go_wp2_with fail
      refine CL28.out.mono ?_
      rintro e6 w6 ⟨rfl, hw6⟩
      obtain rfl := hw6.symm
      rw [hl28]
      obtain ⟨wo, hwo⟩ : ∃ wo : World, wo = wr := ⟨_, rfl⟩
      rw [← hwo] at CL CD HSC ⊢
      clear CL28 hwo
      go_wp2_with fail
      go_loopw [13, 14, 15] (fun sv bv xv wl => ∃ j : Nat, sv = .int .i64 ((257 + j : Nat) : Int) ∧ bv = .int .i64 ((lengthP j).1 : Nat) ∧ xv = .int .i64 ((lengthP j).2 : Nat) ∧ j ≤ 28 ∧ selL n j = selL n 28 ∧ wl = wo) (fun sv _ _ _ => ((intOf sv) - 256).toNat)
      case atStart => exact ⟨28, rfl, by rw [hl28]; rfl, by rw [hl28]; rfl, by omega, rfl, rfl⟩
      case round =>
        obtain ⟨j, rfl, rfl, rfl, hj28, hsel, hwl⟩ := hrel
        obtain ⟨base, hbase⟩ : ∃ base, base = (lengthP j).1 := ⟨_, rfl⟩
        obtain ⟨xx, hxx⟩ : ∃ xx, xx = (lengthP j).2 := ⟨_, rfl⟩
        rw [← hbase, ← hxx]
        have HW9 := Lib.hid hwl
        by_cases hgt : n < base
        · have v1 : decide ((n : Int) < (base : Int)) = true := by simpa using hgt
          have h3 : (lengthP 0).1 = 3 := by decide
          obtain ⟨j', rfl⟩ : ∃ j', j = j' + 1 := ⟨j - 1, by
            by_cases h0 : j = 0
            · subst h0; omega
            · omega⟩
          have hs1 : ((257 + (j' + 1) : Nat) : Int) - 1 = ((257 + j' : Nat) : Int) := by omega
          have CLJ := Lib.hid (show Calls Tryd.prog 14 #[.int .i64 ((257 + j' : Nat) : Int)] wr fun e w' => e = .returned (.tuple #[.int .i64 ((lengthP j').1 : Nat), .int .i64 ((lengthP j').2 : Nat)]) ∧ w' = wr from length_any wr j' (by omega))
          have HSEL := Lib.hid (show selL n j' = selL n 28 from by rw [← hsel, selL_down (by omega)])
          obtain ⟨s0, hs0⟩ : ∃ s0, s0 = 257 + (j' + 1) := ⟨_, rfl⟩
          obtain ⟨s9, hs9⟩ : ∃ s9, s9 = 257 + j' := ⟨_, rfl⟩
          rw [← hs0, ← hs9] at hs1
          rw [← hs9] at CLJ
          rw [← hs0]
          have hws : IntKind.i64.wrap (s9 : Int) = (s9 : Int) := wrap_i64 _ (by omega) (by omega)
          have HS9 := Lib.hid (And.intro hs9 hs0)
          have v1n : decide (n < base) = true := by simpa using hgt
          clear hbase hxx hsel hs9 hs0 hwl hl28 h3
          go_wp2_with fail
          refine CLJ.out.mono ?_
          rintro e7 w7 ⟨rfl, hw7⟩
          obtain rfl := hw7.symm
          clear CLJ
          go_wp2_with fail
          go_roundw
          case rel => exact ⟨j', by rw [← HS9.out.1], rfl, rfl, by omega, HSEL.out, HW9.out⟩
          case measure => have h1 := HS9.out.1; have h2 := HS9.out.2; simp [intOf]; omega
        · have v1 : decide ((n : Int) < (base : Int)) = false := by simpa using hgt
          obtain ⟨k1, k2, k3, k4⟩ := selL_ok n (by omega) hn
          have hjs : selL n 28 = j := by rw [← hsel]; exact selL_stay (by omega)
          have hkb := leadBits_length k
          rw [hjs, ← hbase, ← hxx] at k3
          rw [hjs, ← hxx] at k4
          have hlen1 : (Bi.lowr 3 3 ++ leadBits k).length ≤ 1000000 := by rw [List.length_append, Bi.lowr_length]; omega
          have C7 := Lib.hid (PUTL.out wo _ _ _ HSC.out.2 HSC.out.1 hlen1 (257 + j) (by omega))
          obtain ⟨x0, ⟨y0, y1, y2, y3⟩, ⟨z0, z1, z2, z3⟩⟩ := CELLS.out wo HSC.out.2
          obtain ⟨vv, hvv⟩ : ∃ vv, vv = n - base := ⟨_, rfl⟩
          have hv2 : (n : Int) - (base : Int) = (vv : Int) := by omega
          have hvw : IntKind.i64.wrap (vv : Int) = (vv : Int) := wrap_i64 _ (by omega) (by omega)
          rw [← hvv] at k3
          have hfl1 := (fL_facts (257 + j) (by omega)).2.2.1
          have HJ := Lib.hid (And.intro hjs (And.intro hbase (And.intro hxx hvv)))
          obtain ⟨s0, hs0⟩ : ∃ s0, s0 = 257 + j := ⟨_, rfl⟩
          rw [← hs0] at C7 hfl1 ⊢
          have HS0 := Lib.hid hs0
          obtain rfl := hwl.symm
          have v1n : decide (n < base) = false := by simpa using hgt
          clear hbase hxx hsel hl28 hvv hs0 k1 k2 hjs HW9
          go_wp2_with fail
          refine C7.out.mono ?_
          rintro e7 w7 ⟨rfl, hs7, hc7⟩
          clear x0 y0 y1 y2 y3 z0 z1 z2 z3
          obtain ⟨x0, ⟨y0, y1, y2, y3⟩, ⟨z0, z1, z2, z3⟩⟩ := CELLS.out w7 hc7
          have C8 := Lib.hid (hc7.putN hs7 (by rw [List.length_append, List.length_append, Bi.lowr_length, codeBits_length]; omega) vv xx (by omega) k3)
          clear hs7 hc7 C7
          go_wp2_with fail
          refine C8.out.mono ?_
          rintro e8 w8 ⟨rfl, hs8, hc8⟩
          have HS8 := Lib.hid (And.intro hs8 hc8)
          have CD29 := Lib.hid (distance_any w8 29 (by omega))
          clear hs8 hc8 C8 x0 y0 y1 y2 y3 z0 z1 z2 z3
          go_wp2_with fail
          refine CD29.out.mono ?_
          rintro e9 w9 ⟨rfl, hw9⟩
          obtain rfl := hw9.symm
          have hd29 : distP 29 = (24577, 13) := by decide
          rw [hd29]
          obtain ⟨wo, hwo⟩ : ∃ wo : World, wo = w8 := ⟨_, rfl⟩
          rw [← hwo] at HS8 ⊢
          clear CD29 hwo hwl v1 v1n hgt hv2 hvw
          go_wp2_with fail
          go_loopw [13, 14, 15] (fun sv bv xv wl => ∃ t : Nat, sv = .int .i64 (t : Nat) ∧ bv = .int .i64 ((distP t).1 : Nat) ∧ xv = .int .i64 ((distP t).2 : Nat) ∧ t ≤ 29 ∧ selD d t = selD d 29 ∧ wl = wo) (fun sv _ _ _ => (intOf sv).toNat)
          case atStart => exact ⟨29, rfl, by rw [hd29]; rfl, by rw [hd29]; rfl, by omega, rfl, rfl⟩
          case round =>
            obtain ⟨t, rfl, rfl, rfl, ht29, hsel, hwl⟩ := hrel
            obtain ⟨base2, hbase2⟩ : ∃ base2, base2 = (distP t).1 := ⟨_, rfl⟩
            obtain ⟨yy, hyy⟩ : ∃ yy, yy = (distP t).2 := ⟨_, rfl⟩
            rw [← hbase2, ← hyy]
            have HW9 := Lib.hid hwl
            by_cases hgt2 : d < base2
            · have v2 : decide ((d : Int) < (base2 : Int)) = true := by simpa using hgt2
              have v2n : decide (d < base2) = true := by simpa using hgt2
              have h3 : (distP 0).1 = 1 := by decide
              obtain ⟨t', rfl⟩ : ∃ t', t = t' + 1 := ⟨t - 1, by
                by_cases h0 : t = 0
                · subst h0; omega
                · omega⟩
              have CLJ := Lib.hid (show Calls Tryd.prog 15 #[.int .i64 (t' : Nat)] wr fun e w' => e = .returned (.tuple #[.int .i64 ((distP t').1 : Nat), .int .i64 ((distP t').2 : Nat)]) ∧ w' = wr from distance_any wr t' (by omega))
              have HSEL := Lib.hid (show selD d t' = selD d 29 from by rw [← hsel, selD_down (by omega)])
              obtain ⟨s1, hs1⟩ : ∃ s1, s1 = t' + 1 := ⟨_, rfl⟩
              have hs2 : (s1 : Int) - 1 = (t' : Int) := by omega
              rw [← hs1]
              have hws : IntKind.i64.wrap (t' : Int) = (t' : Int) := wrap_i64 _ (by omega) (by omega)
              have HS9 := Lib.hid hs1
              clear hbase2 hyy hsel hs1 hwl hd29 h3
              go_wp2_with fail
              refine CLJ.out.mono ?_
              rintro e7 w7 ⟨rfl, hw7⟩
              obtain rfl := hw7.symm
              clear CLJ
              go_wp2_with fail
              go_roundw
              case rel => exact ⟨t', rfl, rfl, rfl, by omega, HSEL.out, HW9.out⟩
              case measure => have h1 := HS9.out; simp [intOf]; omega
            · have v2 : decide ((d : Int) < (base2 : Int)) = false := by simpa using hgt2
              have v2n : decide (d < base2) = false := by simpa using hgt2
              obtain ⟨m1, m2, m3, m4⟩ := selD_ok d (by omega) hd
              have hts : selD d 29 = t := by rw [← hsel]; exact selD_stay (by omega)
              have hkb := leadBits_length k
              rw [hts, ← hbase2, ← hyy] at m3
              rw [hts, ← hyy] at m4
              obtain ⟨uu, huu⟩ : ∃ uu, uu = d - base2 := ⟨_, rfl⟩
              have hv3 : (d : Int) - (base2 : Int) = (uu : Int) := by omega
              have hvw3 : IntKind.i64.wrap (uu : Int) = (uu : Int) := wrap_i64 _ (by omega) (by omega)
              rw [← huu] at m3
              have hfl1 := (fL_facts s0 (by have := HS0.out; omega)).2.2.1
              have hfe := (fL_facts 256 (by omega)).2.2.1
              obtain ⟨x0, ⟨y0, y1, y2, y3⟩, ⟨z0, z1, z2, z3⟩⟩ := CELLS.out wo HS8.out.2
              have hk6 : xx ≤ 6 := k4
              have C9 := Lib.hid (PUTD.out wo _ _ _ HS8.out.2 HS8.out.1 (by simp only [List.length_append, Bi.lowr_length, codeBits_length]; omega) t (by omega))
              have HT := Lib.hid (And.intro hts (And.intro hbase2 (And.intro hyy huu)))
              obtain rfl := hwl.symm
              clear hbase2 hyy hsel hd29 huu m1 m2 hts HW9
              go_wp2_with fail
              refine C9.out.mono ?_
              rintro e7 w7 ⟨rfl, hs7, hc7⟩
              clear x0 y0 y1 y2 y3 z0 z1 z2 z3
              obtain ⟨x0, ⟨y0, y1, y2, y3⟩, -⟩ := CELLS.out w7 hc7
              have C10 := Lib.hid (hc7.putN hs7 (by simp only [List.length_append, Bi.lowr_length, codeBits_length]; omega) uu yy (by omega) m3)
              clear hs7 hc7 C9
              go_wp2_with fail
              refine C10.out.mono ?_
              rintro e8 w10 ⟨rfl, hs10, hc10⟩
              clear x0 y0 y1 y2 y3
              obtain ⟨x0, ⟨y0, y1, y2, y3⟩, -⟩ := CELLS.out w10 hc10
              have C11 := Lib.hid (PUTL.out w10 _ _ _ hc10 hs10 (by simp only [List.length_append, Bi.lowr_length, codeBits_length]; omega) 256 (by omega))
              clear hs10 hc10 C10
              go_wp2_with fail
              refine C11.out.mono ?_
              rintro e9 w11 ⟨rfl, hs11, hc11⟩
              clear x0 y0 y1 y2 y3
              obtain ⟨x0, -, -⟩ := CELLS.out w11 hc11
              have hrow : Bi.lowr 3 3 ++ leadBits k ++ codeBits (fC s0) (fL s0) ++ Bi.lowr vv xx ++ codeBits (gC t) 5 ++ Bi.lowr uu yy ++ codeBits (fC 256) (fL 256) = copyBits n d k := by
                unfold copyBits
                rw [HJ.out.1, HT.out.1, ← HS0.out, ← HJ.out.2.1, ← HJ.out.2.2.1, ← HJ.out.2.2.2, ← HT.out.2.1, ← HT.out.2.2.1, ← HT.out.2.2.2]
                simp only [List.append_assoc]
              have hrl : (copyBits n d k).length ≤ 20000 := by
                rw [← hrow]; simp only [List.length_append, Bi.lowr_length, codeBits_length]; omega
              rw [hrow] at hs11
              obtain ⟨D, s1, s2, s3, s4, s5, s6⟩ := hs11
              rw [leadOut_length] at s2
              have CB := Lib.hid (Bi.bytes_any w11 w.heap.size P D false _ s1 (by omega))
              have HO := Lib.hid (And.intro s2 s5)
              have HRL := Lib.hid hrl
              clear s1 s2 s3 s4 s5 s6 hc11 C11 hrow hrl hv3 hvw3 v2 v2n hgt2 m3 m4 hfl1 hfe hkb
              go_wp2_with fail
              refine CB.out.mono ?_
              intro e3 w12 h3
              obtain ⟨bb, cb, rfl, hown3, hb3⟩ := told_bytes h3
              obtain ⟨ys, hys⟩ : ∃ ys, ys = Bi.packedN false (copyBits n d k) := ⟨_, rfl⟩
              have hyb : ∀ y ∈ ys, y < 256 := by rw [hys]; exact Bi.packedN_byte false _
              have hyl : ys.length ≤ 20000 := by rw [hys, Bi.packedN_length]; have := HRL.out; omega
              rw [← hys] at hown3 ⊢
              have hby3 := (bytes_of_own hown3 hyb).1
              have hread := copies_read (T := ∀ P R D, ToldOK w12 P R D ys (2000 : Nat) noTab) (tab := noTab) n d k ⟨hn, hn2⟩ ⟨hd, hd2⟩ hlead (8 * ys.length + 1) (by omega)
              rw [← hys] at hread
              have CI := Lib.hid (inflate_any w12 bb ys.length cb ys hby3 (by omega) 2000 (by omega) noTab noTab_on hread.2.2)
              obtain ⟨fin, hfin⟩ : ∃ fin, fin = inflM noTab ys ((2000 : Nat) : Int) (8 * ys.length + 1) ⟨0, [], 0⟩ := ⟨_, rfl⟩
              rw [← hfin] at CI hread
              have HREAD := Lib.hid hread
              have HB3 := Lib.hid hb3
              obtain ⟨yl, hyl2⟩ : ∃ yl, yl = ys.length := ⟨_, rfl⟩
              rw [← hyl2] at CI ⊢
              clear h3 hown3 hb3 hyb hyl hby3 hread CB hys hyl2 hfin x0
              go_wp2_with fail
              refine CI.out.mono ?_
              rintro e4 w13 ⟨hb13, -, -, hfb, hcase⟩
              have hbl : Below w11.heap.size w11 w13 := below_more HB3.out hb13 (Nat.le_refl _)
              have HBL := Lib.hid hbl
              have HFB := Lib.hid hfb
              by_cases hdl : k < d
              · have he22 := HREAD.out.2.1 hdl
                rcases hcase with ⟨he, rfl⟩ | ⟨he, -⟩
                · rw [he22]
                  have w1' : decide ((k : Int) < (d : Int)) = true := by simpa using hdl
                  have X := Lib.hid (show Below w.heap.size w w13 from below_more HO.out.2 hbl (Nat.le_refl _))
                  clear hb13 hbl he he22 CI
                  go_wp2_with fail
                  go_ret
                  exact ⟨rfl, X.out⟩
                · rw [he22] at he; exact absurd he (by decide)
              · have w1' : decide ((k : Int) < (d : Int)) = false := by simpa using hdl
                have w1n : decide (k < d) = false := by simpa using hdl
                have hfin := HREAD.out.1 (by omega)
                rcases hcase with ⟨he, -⟩ | ⟨-, xa, cx, rfl, hownx⟩
                · rw [hfin] at he; exact absurd rfl he
                · obtain ⟨xs, hxs⟩ : ∃ xs, xs = fin.out := ⟨_, rfl⟩
                  have hfo : xs = copyN d n (leadOut k) := by rw [hxs, hfin]
                  have hxl : xs.length = k + n := by rw [hfo, copyN_length, leadOut_length]
                  rw [← hxs] at hownx hfb ⊢
                  rw [hxl] at hownx ⊢
                  have hx0 := own_base (B' := w.heap.size) hownx (Nat.le_trans HO.out.2.size HB3.out.size)
                  have hwx : WX w (.slice aa k cap) (leadOut k) (.slice xa (k + n) cx) xs w13 := by
                    refine ⟨by rw [leadOut_length]; exact own_kept2 HO.out.1 (fun g e => hbl.block g (own_lt2 HO.out.1 g e).2), by rw [hxl]; exact hx0, fun g hg e => ?_, below_more HO.out.2 hbl (Nat.le_refl _)⟩
                    have h1 := (own_lt2 HO.out.1 g hg).2
                    have h2 := (own_lt2 hownx g e).1
                    have h3 := HB3.out.size
                    omega
                  have HWX := Lib.hid hwx
                  have HFO := Lib.hid hfo
                  have HXL := Lib.hid hxl
                  have HXB := Lib.hid (show ∀ y ∈ xs, y < 256 from hfb)
                  clear hb13 hbl hfb hownx hfin hx0 hwx hfo hxl CI hxs
                  go_wp2_with fail
                  go_loopw [11, 19] (fun sv kv wl => ∃ (i : Nat) (a5 : Option Addr) (p5 : Nat) (out : List Nat), i ≤ n ∧ kv = .int .i64 i ∧ sv = .slice a5 (k + i) p5 ∧ out.length = k + i ∧ copyN d (n - i) out = xs ∧ (∀ y ∈ out, y < 256) ∧ WX w (.slice a5 (k + i) p5) out (.slice xa (k + n) cx) xs wl) (fun _ kv _ => n - (intOf kv).toNat)
                  case atStart => exact ⟨0, aa, cap, leadOut k, Nat.zero_le _, rfl, rfl, leadOut_length k, HFO.out.symm, fun y hy => by simp only [leadOut, List.mem_map] at hy; obtain ⟨q, _, rfl⟩ := hy; omega, HWX.out⟩
                  case round =>
                    clear HWX
                    obtain ⟨i, a5, p5, out, hi, rfl, rfl, hol, hco, hob, hW⟩ := hrel
                    by_cases hin : i < n
                    · obtain ⟨l5, hl5⟩ : ∃ l5, l5 = k + i := ⟨_, rfl⟩
                      have hown : wr.ownsRow w.heap.size 5 1 (.slice a5 l5 p5) l5 (bys out) := by
                        have h := hW.1
                        rw [hol, ← hl5] at h
                        exact h
                      rw [← hl5] at hW ⊢
                      have hbo := (bytes_of_own hown hob).1
                      obtain ⟨ix, hix⟩ : ∃ ix, ix = l5 - d := ⟨_, rfl⟩
                      have hixl : ix < l5 := by omega
                      obtain ⟨b0, o0, y, rfl, hy, hy256, hcy⟩ := hbo.at hixl
                      have hsub : (l5 : Int) - (d : Int) = (ix : Int) := by omega
                      have hwsub : IntKind.i64.wrap (ix : Int) = (ix : Int) := wrap_i64 _ (by omega) (by omega)
                      have hnext : copyN d (n - (i + 1)) (out ++ [y]) = xs := by
                        rw [show n - i = (n - (i + 1)) + 1 by omega, copyN, hol, ← hl5, ← hix] at hco
                        rw [List.getD_eq_getElem?_getD, hy] at hco
                        exact hco
                      have hwsz : w.heap.size ≤ wr.heap.size := hW.2.2.2.size
                      have WA := Lib.hid (show Below wr.heap.size wr (wr.alloc (.cells #[.int .u8 (y : Nat)] 5)) from (Below.refl _ _).alloc (Nat.le_refl _) _)
                      have OB := Lib.hid (one_byte wr y hy256)
                      have HOW := Lib.hid hown
                      have HW2 := Lib.hid (hW.later WA.out)
                      have HN := Lib.hid (And.intro hnext (And.intro hol (And.intro hob hl5)))
                      have hl5b : l5 ≤ 2000 := by omega
                      clear hown hbo hy hnext hW hco hol hob hix hl5
                      go_wp2_with (at_builtin; go_must (refine wpList_append_text rfl (.tmp 145) (.tmp 153) rfl w.heap.size l5 (.slice (some ⟨b0, o0, none⟩) l5 p5) out rfl ?f1 (some ⟨wr.heap.size, 0, none⟩) 1 1 [y] rfl ?f2 (by intro e; cases e) (by omega) (by omega) ?f3 ?f4))
                      case f1 => exact own_kept2 HOW.out (fun g e => WA.out.block g (own_lt2 HOW.out g e).2)
                      case f2 => exact OB.out
                      case f3 => first | (simp; omega) | omega | exact Nat.le_succ_of_le hwsz
                      case f4 =>
                        intro aa2 cap2 w9 hown9 hg9 hat9
                        have g1 := HW2.out.grow (show l5 + 1 = out.length + [y].length by rw [HN.out.2.1, HN.out.2.2.2]; rfl) hown9 hg9 hat9 (Nat.le_of_eq (Array.size_push _))
                        have X := Lib.hid g1
                        clear hown9 hg9 hat9 g1 hcy
                        go_wp2_with fail
                        go_roundw
                        case rel => exact ⟨i + 1, aa2, cap2, out ++ [y], hin, by go_num, by rw [HN.out.2.2.2, Nat.add_assoc], by rw [List.length_append, HN.out.2.1, List.length_singleton, Nat.add_assoc], HN.out.1, fun z hz => by
                          rcases List.mem_append.1 hz with h | h
                          · exact HN.out.2.2.1 z h
                          · have h' : z = y := by simpa using h
                            rw [h']; exact hy256, by rw [← Nat.add_assoc, ← HN.out.2.2.2]; exact X.out⟩
                        case measure => simp [intOf] <;> omega
                    · obtain rfl : i = n := by omega
                      rw [Nat.sub_self] at hco
                      have hco2 : out = xs := hco
                      subst hco2
                      have hx := (bytes_of_own (by have h := hW.2.1; rw [hol] at h; exact h) hob).1
                      have hz := (bytes_of_own (by have h := hW.1; rw [hol] at h; exact h) hob).1
                      have CS := Lib.hid (same_yes wr xa (k + i) cx a5 p5 out hx hz (by omega))
                      have HF := Lib.hid hW.2.2.2
                      clear hx hz hW hco hol hob
                      go_wp2_with fail
                      refine CS.out.mono ?_
                      rintro e5 w5 ⟨rfl, q5, rfl⟩
                      have HF2 := Lib.hid (show Below w.heap.size w (wr.drewN q5) from HF.out.trans ⟨rfl, rfl, rfl, Nat.le_refl _, fun _ _ => rfl⟩)
                      generalize wr.drewN q5 = w6 at *
                      go_wp2_with fail
                      go_ret
                      exact ⟨rfl, HF2.out⟩
end Go.Proofs.YtpmoknnhgginjaaDoor.Law

/- What FlateCopies lets go. -/
namespace Go.Proofs.YtpmoknnhgginjaaDoor.Law
open Go.RowKit Lzz Ref Pr Rt
set_option linter.unusedVariables false

set_option maxRecDepth 100000 in
set_option maxHeartbeats 1600000 in
theorem copies_out (w : World) (a0 a1 a2 : Int) (h : a0 < 3 ∨ 258 < a0 ∨ a1 < 1 ∨ 1000 < a1 ∨ a2 < 0 ∨ 1000 < a2) : Calls Tryd.prog 4 #[.int .i64 a0, .int .i64 a1, .int .i64 a2] w (Yes w) := by
  have CA := Lib.hid (anchor_any w)
  have H := Lib.hid h
  clear h
  cases b0 : decide (a0 < 3) <;> cases b1 : decide (258 < a0) <;> cases b2 : decide (a1 < 1) <;> cases b3 : decide (1000 < a1) <;> cases b4 : decide (a2 < 0) <;> cases b5 : decide (1000 < a2)
  all_goals
    first
      | (exfalso; simp only [decide_eq_false_iff_not] at b0 b1 b2 b3 b4 b5; have := H.out; omega)
      | (clear H
         go_enter Tryd.func4, Tryd.ntmps4
         go_wp2_with fail
         refine CA.out.mono ?_
         rintro e w1 ⟨rfl, hb⟩
         have HB := Lib.hid hb
         clear hb CA
         go_wp2_with fail
         go_ret
         exact ⟨rfl, HB.out⟩)
end Go.Proofs.YtpmoknnhgginjaaDoor.Law
