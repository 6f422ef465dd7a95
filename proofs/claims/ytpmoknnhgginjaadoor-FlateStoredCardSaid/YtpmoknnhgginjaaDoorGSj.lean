/- Texts of a layer, one behind the other. -/
import Derived.Test.YtpmoknnhgginjaaDoorGSi
import Derived.Test.YtpmoknnhgginjaaDoorRows
import Derived.ProofKit
import Derived.LaidMore
import Derived.OpenShut
import Derived.ChangeOld
import Derived.Below
import Derived.Deep.Matrix
import Derived.MakeChecks
/- The anchor: the document's examples. -/
namespace Go.Proofs.YtpmoknnhgginjaaDoor.Law
open Go.RowKit Lzz Ref Pr Rt
set_option linter.unusedVariables false

/-- A reading of tables that is never asked. -/
def noTab (s : St) : (List Int × List Int) × St := (([], []), s)
theorem noTab_on : Onward noTab := fun _ _ => Nat.le_refl _
set_option maxRecDepth 100000 in
set_option maxHeartbeats 1600000 in
theorem anchor_any (w : World) : Calls Tryd.prog 5 #[] w (Yes w) := by
  have b1 : Below w.heap.size w (w.alloc (.cells #[.int .u8 75, .int .u8 4, .int .u8 0, .int .u8 9] 5)) := (Below.refl _ _).alloc (Nat.le_refl _) _
  have C1 := inflate_any (w.alloc (.cells #[.int .u8 75, .int .u8 4, .int .u8 0, .int .u8 9] 5)) (some ⟨w.heap.size, 0, none⟩) 4 4 [75, 4, 0, 9] (lit_bytes w #[.int .u8 75, .int .u8 4, .int .u8 0, .int .u8 9] [75, 4, 0, 9] (0, 0) rfl (by decide)) (by omega) 10 (by omega) noTab noTab_on (ex_read (by omega) ex1_has _ (by omega)).2
  rw [(ex_read (T := True) (by omega) ex1_has (8 * 4 + 1) (by omega)).1] at C1
  have B1 := Lib.hid b1
  have C1 := Lib.hid C1
  clear b1
  go_enter Tryd.func5, Tryd.ntmps5
  go_wp2_with fail
  refine C1.out.mono ?_
  rintro e w1 ⟨hb, -, -, hby, hcase⟩
  rcases hcase with ⟨he, -⟩ | ⟨-, aa, cap, rfl, hown⟩
  · exact absurd rfl he
  have A1 := Lib.hid (show Arg w1 aa 1 cap [97] from bytes_of_own hown hby)
  have H1 := Lib.hid (show Below w.heap.size w w1 from below_more B1.out hb (Nat.le_refl _))
  clear hb hby hown C1 B1
  have C2 := Lib.hid (unzip_any (w1.alloc (.cells #[.int .u8 120, .int .u8 156, .int .u8 75, .int .u8 4, .int .u8 0, .int .u8 0, .int .u8 98, .int .u8 0, .int .u8 98] 5)) (some ⟨w1.heap.size, 0, none⟩) 9 9 [120, 156, 75, 4, 0, 0, 98, 0, 98] (lit_bytes w1 #[.int .u8 120, .int .u8 156, .int .u8 75, .int .u8 4, .int .u8 0, .int .u8 0, .int .u8 98, .int .u8 0, .int .u8 98] [120, 156, 75, 4, 0, 0, 98, 0, 98] (0, 0) rfl (by decide)) (by omega) (by omega) (by omega) rfl rfl 1 (by omega) noTab noTab_on
    (fun w1 _ => (ex_read (by omega) ex2_has _ (by omega)).2) ⟨18, [97], 0⟩ (ex_read (T := True) (by omega) ex2_has _ (by omega)).1.symm)
  go_wp2_with fail
  refine C2.out.mono ?_
  rintro e w2 ⟨hb, hcase⟩
  have hfin : ∃ bb cp, e = .returned (.tuple #[.slice bb 1 cp, .int .i64 0]) ∧ w2.ownsRow (w1.alloc (.cells #[.int .u8 120, .int .u8 156, .int .u8 75, .int .u8 4, .int .u8 0, .int .u8 0, .int .u8 98, .int .u8 0, .int .u8 98] 5)).heap.size 5 1 (.slice bb 1 cp) 1 (bys [97]) := by
    rcases hcase with ⟨h, -⟩ | ⟨-, h, -⟩ | ⟨-, -, h, -⟩ | ⟨-, h, -⟩ | ⟨-, -, -, h⟩
    · exact absurd rfl h
    · exact absurd h (by decide)
    · exact absurd ex_sum h
    · exact absurd h (by decide)
    · exact h
  obtain ⟨bb, cp, rfl, hown⟩ := hfin
  have A2 := bytes_of_own hown (by decide)
  have b2 : Below w1.heap.size w1 w2 := below_more ((Below.refl _ _).alloc (Nat.le_refl _) _) hb (Nat.le_refl _)
  have hcv : (convert 26 9 (.slice aa 1 cap)).run Tryd.prog w2 = .ok (.string (strOf [97])) w2 := conv_arg (A1.out.below b2)
  have hcv2 : (convert 26 9 (.slice bb 1 cp)).run Tryd.prog w2 = .ok (.string (strOf [97])) w2 := conv_arg A2
  have H2 := Lib.hid (below_more H1.out b2 (Nat.le_refl _))
  have hst : (strOf [97]).toList = [97] := by decide +kernel
  generalize strOf [97] = s at *
  clear hb hcase hown A2 b2 C2 A1 H1
  go_wp2_with fail
  go_ret
  exact ⟨rfl, H2.out⟩
end Go.Proofs.YtpmoknnhgginjaaDoor.Law

/- What came in, opened: the table that start-up lays, bytes, lists of texts. -/
namespace Go.Proofs.YtpmoknnhgginjaaDoor.Law
open Go.ChangeShapes Go.WideShapes Go.ChangeAt Go.RowKit Lzz
set_option linter.unusedVariables false

abbrev table : List (String × DataW Unit) := [("scumble/flate.order", Rows.laid_scumble_flate_order)]
/-- The door's own heap meets the condition. -/
theorem door_met (os : Os) (args : Array Value) : laidMetH Tryd.prog table ((World.doorLaid Tryd.prog 14 os).forCall (fun _ _ => 0) ⟨#[], args, []⟩).memory :=
  laidMetH_of_parts3 (fuel := 8) (laidMet_of_run' 8 (by kernel_rfl) (by kernel_rfl)) (by kernel_rfl) (by kernel_rfl)

/-- A slice of bytes that came in. -/
def IsRow (w : World) (a : Option Addr) (len cap : Nat) (zs : List Int) : Prop :=
  (a = none ∧ len = 0 ∧ cap = 0 ∧ zs = []) ∨
  ∃ x, a = some x ∧ len ≤ cap ∧ cap ≤ maxLen ∧ zs.length = cap ∧ (∀ i, i < zs.length → w.cell? (x.add i) = some (.int .u8 (zs.getD i 0))) ∧ ∀ n ∈ zs, (Lit.int .u8 n).wf = true
theorem byte_bounds {n : Int} (h : (Lit.int .u8 n).wf = true) : 0 ≤ n ∧ n < 256 := by
  simp [Lit.wf, IntKind.min, IntKind.max, IntKind.signed, IntKind.bits] at h
  omega
theorem head_spot {w : World} {x : Addr} {v : Value} (h : w.cell? (x.add 0) = some v) : ∃ b off, x = ⟨b, off, none⟩ := by
  obtain ⟨b, off, spot⟩ := x
  have h1 := World.cell?_spot (by simpa [Addr.add] using h)
  simp only at h1
  exact ⟨b, off, by rw [h1]⟩
theorem arg_of_row {w : World} {a : Option Addr} {len cap : Nat} {zs : List Int} (h : IsRow w a len cap zs) : ∃ ds, Arg w a len cap ds := by
  rcases h with ⟨rfl, rfl, rfl, _⟩ | ⟨x, rfl, hl, hm, hz, hcell, hwz⟩
  · exact ⟨[], nil_arg w⟩
  · refine ⟨(zs.take len).map Int.toNat, ⟨by simp; omega, ?_, fun hp => ?_⟩, hl, fun e => (by cases e)⟩
    · intro y hy
      simp only [List.mem_map] at hy
      obtain ⟨z, hz2, rfl⟩ := hy
      have := byte_bounds (hwz z (List.mem_of_mem_take hz2))
      omega
    · obtain ⟨b, off, rfl⟩ := head_spot (hcell 0 (by omega))
      refine ⟨b, off, rfl, fun j y hj => ?_⟩
      rw [List.getElem?_map, List.getElem?_take] at hj
      split at hj
      · rename_i hjl
        have hj2 : j < zs.length := by omega
        have hc := hcell j hj2
        rw [add_spot] at hc
        rw [List.getElem?_eq_getElem hj2] at hj
        simp only [Option.map_some, Option.some.injEq] at hj
        rw [hc, List.getD_eq_getElem?_getD, List.getElem?_eq_getElem hj2]
        have := byte_bounds (hwz _ (List.getElem_mem hj2))
        simp only [Option.getD_some]
        congr 2
        omega
      · cases hj
theorem arg_of_trod {H : Type} {enc : TypeId × Value → H} {w : World} {a : Option Addr} {len cp : Nat} {d : DataW H} {p : List MemPlace}
    (h : DataW.Trod enc Tryd.prog w 0 (fun _ => true) true 26 (.slice a len cp) d p) : ∃ ds, Arg w a len cp ds := by
  obtain ⟨fuel, hf⟩ := h
  have k : ∃ zs, IsRow w a len cp zs := by
    rcases open_ints Tryd.underlying26 Tryd.underlying5 (by kernel_rfl) hf with ⟨hcs, _⟩ | ⟨x, l, c, zs, hcs, _, hl, hm, hz, _, hcell, hwz⟩
    · simp [Value.cells] at hcs
      obtain ⟨rfl, rfl, rfl⟩ := hcs
      exact ⟨[], .inl ⟨rfl, rfl, rfl, rfl⟩⟩
    · simp [Value.cells] at hcs
      obtain ⟨rfl, rfl, rfl⟩ := hcs
      exact ⟨zs, .inr ⟨_, rfl, hl, hm, by simpa using hz, hcell, hwz⟩⟩
  obtain ⟨zs, hz⟩ := k
  exact arg_of_row hz

theorem texts_each {H : Type} {enc : TypeId × Value → H} {w : World} {fuel : Nat} {a : Option Addr} {len cp : Nat} {x : DataW H × List MemPlace}
    (h : DataW.trod enc Tryd.prog w 0 (fun _ => true) true fuel 22 [.slice a len cp] = some x) : ∀ i, i < len → ∃ ys b off a' m c', a = some ⟨b, off, none⟩ ∧ w.cell? ⟨b, off + i, none⟩ = some (.slice a' m c') ∧ (m ≤ c' ∧ (a' = none → m = 0 ∧ c' = 0)) ∧ Bytes w a' m ys := by
  rcases Deep.open_int_rows Tryd.underlying22 Tryd.underlying26 Tryd.underlying5 (by kernel_rfl) (by kernel_rfl) h with ⟨hcs, _⟩ | ⟨ad, l, c, A, L, C, Z, hcs, _, hl, hm, _, hi⟩
  · simp only [List.cons.injEq, and_true, Value.slice.injEq] at hcs
    obtain ⟨rfl, rfl, rfl⟩ := hcs
    intro i hi; omega
  · simp only [List.cons.injEq, and_true, Value.slice.injEq] at hcs
    obtain ⟨rfl, rfl, rfl⟩ := hcs
    intro i hlt
    obtain ⟨b, off, rfl⟩ := head_spot (hi 0 (by omega)).1
    obtain ⟨hc, h1, h2, h3, h4, h5, h6⟩ := hi i (by omega)
    rw [add_spot] at hc
    have k : IsRow w (A i) (L i) (C i) (Z i) := by
      cases hA : A i with
      | none =>
        have := h5 hA
        exact .inl ⟨rfl, by omega, this, List.eq_nil_of_length_eq_zero (by omega)⟩
      | some a' => exact .inr ⟨a', rfl, h1, h2, h3, fun j hj => (h6 a' hA).2 j (by omega), h4⟩
    obtain ⟨ds, hd⟩ := arg_of_row k
    exact ⟨ds, b, off, A i, L i, C i, rfl, hc, ⟨hd.2.1, hd.2.2⟩, hd.1⟩
theorem texts_of_trod {H : Type} {enc : TypeId × Value → H} {w : World} {a : Option Addr} {len cp : Nat} {d : DataW H} {p : List MemPlace}
    (h : DataW.Trod enc Tryd.prog w 0 (fun _ => true) true 22 (.slice a len cp) d p) : ∃ ls, Su.Texts w a len ls := by
  obtain ⟨fuel, hf⟩ := h
  have h3 := texts_each hf
  have h4 : ∀ i : Nat, ∃ ys : List Nat, i < len → ∃ b off a' m c', a = some ⟨b, off, none⟩ ∧ w.cell? ⟨b, off + i, none⟩ = some (.slice a' m c') ∧ (m ≤ c' ∧ (a' = none → m = 0 ∧ c' = 0)) ∧ Bytes w a' m ys := by
    intro i
    by_cases hi : i < len
    · obtain ⟨ys, hy⟩ := h3 i hi
      exact ⟨ys, fun _ => hy⟩
    · exact ⟨[], fun h => absurd h hi⟩
  obtain ⟨f, hf⟩ := Classical.axiomOfChoice h4
  refine ⟨(List.range len).map f, by simp, fun i ys hx => ?_⟩
  rw [List.getElem?_map] at hx
  by_cases hi : i < len
  · rw [List.getElem?_range hi] at hx
    simp only [Option.map_some, Option.some.injEq] at hx
    subst hx
    exact hf i hi
  · have : (List.range len)[i]? = none := by simp; omega
    rw [this] at hx
    cases hx
end Go.Proofs.YtpmoknnhgginjaaDoor.Law

/- Same; a writer and a row of bytes side by side. -/
namespace Go.Proofs.YtpmoknnhgginjaaDoor.Law
open Go.RowKit Lzz Ref Pr Rt
set_option linter.unusedVariables false

set_option maxHeartbeats 800000 in
theorem same_yes (w : World) (a : Option Addr) (n c : Nat) (b : Option Addr) (d : Nat) (xs : List Nat) (h1 : Bytes w a n xs) (h2 : Bytes w b n xs) (hn : n ≤ 16777216) :
    Calls Tryd.prog 11 #[.slice a n c, .slice b n d] w fun e w' => e = .returned (.bool true) ∧ ∃ q, w' = w.drewN q := by
  have H := Lib.hid (And.intro h1 h2)
  clear h1 h2
  go_enter Tryd.func11, Tryd.ntmps11
  go_wp2
  go_loopw [5] (fun iv wl => ∃ i q : Nat, i ≤ n ∧ iv = .int .i64 i ∧ wl = w.drewN q) (fun iv _ => n - (intOf iv).toNat)
  case atStart => exact ⟨0, 0, Nat.zero_le _, rfl, rfl⟩
  case round =>
    obtain ⟨i, q, hi, rfl, hq⟩ := hrel
    by_cases hlt : i < n
    · obtain ⟨b0, o0, y, rfl, hy, hy2, hc⟩ := (H.out.1.later (w' := w.drewN q) (fun _ _ => rfl)).at hlt
      obtain ⟨b1, o1, y', rfl, hy', _, hc'⟩ := (H.out.2.later (w' := w.drewN q) (fun _ _ => rfl)).at hlt
      rw [hy] at hy'
      obtain rfl := Option.some.inj hy'
      rw [← hq] at hc hc'
      have HQ := Lib.hid hq
      clear hy hy' hq
      go_wp2
      go_quiet (fail)
      have HQ2 := Lib.hid (show ∃ q2, wr.drewN nq = w.drewN q2 from ⟨q + nq, by rw [HQ.out]; simp [World.drewN, Nat.add_assoc]⟩)
      generalize wr.drewN nq = w5 at *
      go_wp2
      go_roundw
      case rel =>
        obtain ⟨q2, h2⟩ := HQ2.out
        exact ⟨i + 1, q2, hlt, by go_num, h2⟩
      case measure => simp [intOf] <;> omega
    · obtain rfl : i = n := by omega
      have HQ := Lib.hid hq
      clear hq
      go_wp2
      go_ret
      exact ⟨rfl, q, HQ.out⟩

/-- A writer, and a row of bytes that grows beside it. -/
def Sm (w : World) (P : Nat) (L : List Bool) (all : List Nat) (va : Value) (W : World) : Prop :=
  ∃ D, Bi.Wr W w.heap.size P D false L ∧ W.ownsRow w.heap.size 5 1 va all.length (bys all) ∧ va.ownBlock ≠ some P ∧ (∀ k, va.ownBlock = some k → D ≠ some k) ∧ Below w.heap.size w W
theorem Sm.below {w W : World} {P : Nat} {L : List Bool} {all : List Nat} {va : Value} (h : Sm w P L all va W) : Below w.heap.size w W := by obtain ⟨D, _, _, _, _, h⟩ := h; exact h
theorem Sm.step {w W W' : World} {P : Nat} {L L' : List Bool} {all : List Nat} {va : Value} {D : Option Nat} (h1 : Bi.Wr W w.heap.size P D false L) (h2 : W.ownsRow w.heap.size 5 1 va all.length (bys all)) (h3 : va.ownBlock ≠ some P) (h4 : ∀ k, va.ownBlock = some k → D ≠ some k) (h5 : Below w.heap.size w W)
    (ht : Bi.Then W w.heap.size P D false L' W') : Sm w P L' all va W' := by
  obtain ⟨D', q1, q2, q3⟩ := ht
  have hP : w.heap.size ≤ P := Bi.Raw.at_ h1
  refine ⟨D', q1, own_kept2 h2 (fun g e => q2.block g (own_lt2 h2 g e).2 (fun hs => ?_)), h3, fun k hk => ?_, h5.trans (q2.below h5.size (fun k hk hs => ?_))⟩
  · rcases hs with rfl | hs
    · exact h3 e
    · exact h4 g e hs.symm
  · rcases q3 with rfl | ⟨j, rfl, hj⟩
    · exact h4 k hk
    · intro e
      have := (own_lt2 h2 k hk).2
      simp only [Option.some.injEq] at e
      omega
  · rcases hs with rfl | hs
    · omega
    · have := (Bi.Raw.data_lt h1 hs.symm).1
      omega
theorem sm_put {w W : World} {P : Nat} {L : List Bool} {all : List Nat} {va : Value} (h : Sm w P L all va W) (hl : L.length ≤ 16777216) (v n : Nat) (hn : n ≤ 24) (hv : v < 2 ^ n) :
    Calls Tryd.prog 7 #[.pointer (some ⟨P, 0, none⟩), .int .i64 v, .int .i64 n] W fun e W' => e = .returned (.bool true) ∧ Sm w P (L ++ Bi.lowr v n) all va W' := by
  obtain ⟨D, h1, h2, h3, h4, h5⟩ := h
  refine (Bi.put_yes W w.heap.size P D false L h1 h5.size hl v n hn hv).mono ?_
  rintro e W' ⟨rfl, ht⟩
  exact ⟨rfl, Sm.step h1 h2 h3 h4 h5 ht⟩
theorem sm_fill {w W : World} {P : Nat} {L : List Bool} {all : List Nat} {va : Value} (h : Sm w P L all va W) (hl : L.length ≤ 16777216) (bit : Nat) (hb : bit ≤ 16777216) :
    Calls Tryd.prog 8 #[.pointer (some ⟨P, 0, none⟩), .int .i64 bit] W fun e W' => e = .returned (.tuple #[]) ∧ Sm w P (L ++ List.replicate ((8 - L.length % 8) % 8) (decide (bit % 2 = 1))) all va W' := by
  obtain ⟨D, h1, h2, h3, h4, h5⟩ := h
  refine (Bi.fill_any W w.heap.size P D false L h1 h5.size hl bit (by omega) (by omega)).mono ?_
  rintro e W' ⟨rfl, ht⟩
  have e : Bi.fill L (bit : Int) = L ++ List.replicate ((8 - L.length % 8) % 8) (decide (bit % 2 = 1)) := by
    unfold Bi.fill
    rw [show (decide ((bit : Int) % 2 = 1)) = decide (bit % 2 = 1) by simp only [decide_eq_decide]; omega]
  rw [e] at ht
  exact ⟨rfl, Sm.step h1 h2 h3 h4 h5 ht⟩
/-- The row grows. -/
theorem Sm.grow {w W W2 : World} {P : Nat} {L : List Bool} {all ds : List Nat} {va : Value} {aa : Option Addr} {cap m M : Nat} (h : Sm w P L all va W) (hm : m = all.length + ds.length) (hown : W2.ownsRow w.heap.size 5 1 (.slice aa m cap) m (bys (all ++ ds))) (hg : W.grownBy W2 va.ownBlock) (hat : (Value.slice aa m cap).ownBlock = va.ownBlock ∨ (Value.slice aa m cap).ownBlock = some M) (hM : W.heap.size ≤ M) :
    Sm w P L (all ++ ds) (.slice aa m cap) W2 := by
  obtain ⟨D, h1, h2, h3, h4, h5⟩ := h
  have hP := Bi.Raw.lt h1
  refine ⟨D, Bi.Raw.kept h1 (hg.block P hP (fun e => h3 e.symm)) (fun k hk => hg.block k (Bi.Raw.data_lt h1 hk).2 (fun e => h4 k e.symm hk)), by rw [List.length_append, ← hm]; exact hown, ?_, fun k hk => ?_, grown_below (Nat.le_refl _) h5 hg (fun k e => (own_lt2 h2 k e).1)⟩
  · rcases hat with e | e
    · rw [e]; exact h3
    · rw [e]; simp; omega
  · rcases hat with e | e
    · rw [e] at hk; exact h4 k hk
    · rw [e] at hk
      simp only [Option.some.injEq] at hk
      intro e2
      have := (Bi.Raw.data_lt h1 e2).2
      omega
end Go.Proofs.YtpmoknnhgginjaaDoor.Law

/- The walk of FlateStored. -/
namespace Go.Proofs.YtpmoknnhgginjaaDoor.Law
open Go.RowKit Lzz Ref Pr Rt
set_option linter.unusedVariables false

theorem storRow_len (parts : List (List Nat)) (n i : Nat) (hp : ∀ p ∈ parts.take i, p.length ≤ 1000) (hi : i ≤ parts.length) : (storRow parts n i).length ≤ 9000 * i := by
  induction i with
  | zero => simp [storRow]
  | succ i ih =>
    have h1 := ih (fun p hp' => hp p (by rw [List.take_add_one]; exact List.mem_append_left _ hp')) (by omega)
    have hg : parts[i]? = some (parts.getD i []) := by rw [List.getD_eq_getElem?_getD, List.getElem?_eq_getElem (show i < parts.length by omega)]; rfl
    have h2 := hp (parts.getD i []) (by rw [List.take_add_one, hg]; simp)
    rw [storRow, List.length_append, storBits_length]
    omega
theorem flat_len (parts : List (List Nat)) (i : Nat) (hp : ∀ p ∈ parts.take i, p.length ≤ 1000) : (parts.take i).flatten.length ≤ 1000 * i := by
  have h : ∀ (l : List (List Nat)), (∀ p ∈ l, p.length ≤ 1000) → l.flatten.length ≤ 1000 * l.length := by
    intro l
    induction l with
    | nil => intro _; simp
    | cons x l ih =>
      intro h
      have h1 := ih (fun p hp => h p (by simp [hp]))
      have h2 := h x (by simp)
      simp only [List.flatten_cons, List.length_append, List.length_cons]
      omega
  have h1 := h _ hp
  have h2 : (parts.take i).length ≤ i := by simp; omega
  have := Nat.mul_le_mul_left 1000 h2
  omega
theorem told_bytes {W W' : World} {L : List Bool} {e : Ending} (h : Bi.Told W (Bi.packed false L) e W') : ∃ aa c, e = .returned (.slice aa (Bi.packedN false L).length c) ∧ W'.ownsRow W.heap.size 5 1 (.slice aa (Bi.packedN false L).length c) (Bi.packedN false L).length (bys (Bi.packedN false L)) ∧ Below W.heap.size W W' := by
  obtain ⟨aa, c, h1, h2, h3⟩ := h
  have e1 : (Bi.packed false L).length = (Bi.packedN false L).length := by rw [Bi.packed_eq, List.length_map]
  have e2 : (Bi.packed false L).map (Value.int .u8) = bys (Bi.packedN false L) := by rw [Bi.packed_eq, List.map_map]; rfl
  rw [e1] at h1 h2
  rw [e2] at h2
  exact ⟨aa, c, h1, h2, h3⟩

set_option maxRecDepth 100000 in
set_option maxHeartbeats 400000 in
theorem stored_out (w : World) (a : Option Addr) (n c : Nat) (h : n < 1 ∨ 30 < n) : Calls Tryd.prog 3 #[.slice a n c] w (Yes w) := by
  have CA := Lib.hid (anchor_any w)
  by_cases h1 : n < 1
  · have u : decide (n < 1) = true := by simpa using h1
    have u2 : decide ((n : Int) < 1) = true := by simp; omega
    go_enter Tryd.func3, Tryd.ntmps3
    go_wp2_with fail
    refine CA.out.mono ?_
    rintro e w1 ⟨rfl, hb⟩
    have H := Lib.hid hb
    clear hb CA h
    go_wp2_with fail
    go_ret
    exact ⟨rfl, H.out⟩
  · have h2 : 30 < n := by omega
    have u : decide (n < 1) = false := by simp; omega
    have u2 : decide ((n : Int) < 1) = false := by simp; omega
    have u3 : decide ((30 : Int) < (n : Int)) = true := by simp; omega
    go_enter Tryd.func3, Tryd.ntmps3
    go_wp2_with fail
    refine CA.out.mono ?_
    rintro e w1 ⟨rfl, hb⟩
    have H := Lib.hid hb
    clear hb CA h
    go_wp2_with fail
    go_ret
    exact ⟨rfl, H.out⟩

theorem inflOk_mono {T T' : Prop} (h : T → T') {tab : St → (List Int × List Int) × St} {ys : List Nat} {most : Int} : ∀ (f : Nat) (s : St), inflOk T tab ys most f s → inflOk T' tab ys most f s
  | 0, _ => fun _ => trivial
  | f + 1, s => fun hk => ⟨fun h2 => h (hk.1 h2), fun h2 h3 => inflOk_mono h f _ (hk.2 h2 h3)⟩
set_option maxRecDepth 100000 in
set_option maxHeartbeats 6400000 in
theorem stored_good (w : World) (a : Option Addr) (n c : Nat) (parts : List (List Nat)) (hT : Su.Texts w a n parts) (h1 : 1 ≤ n) (h30 : n ≤ 30) : Calls Tryd.prog 3 #[.slice a n c] w (Yes w) := by
  have CA := Lib.hid (anchor_any w)
  have HT := Lib.hid hT
  have HN := Lib.hid hT.1
  have hbyte : ∀ p ∈ parts, ∀ x ∈ p, x < 256 := by
    intro p hp x hx
    have h := hT.byte parts.length x
    rw [List.take_of_length_le (Nat.le_refl _), List.mem_flatten] at h
    exact h ⟨p, hp, hx⟩
  have HBY := Lib.hid hbyte
  have u : decide (n < 1) = false := by simp; omega
  have u2 : decide ((n : Int) < 1) = false := by simp; omega
  have u3 : decide ((30 : Int) < (n : Int)) = false := by simp; omega
  clear hT hbyte
  go_enter Tryd.func3, Tryd.ntmps3
  go_wp2_with fail
  refine CA.out.mono ?_
  rintro e w1 ⟨rfl, hb1⟩
  have H1 := Lib.hid hb1
  have CN := Lib.hid (Bi.new_any w1 w.heap.size hb1.size false)
  clear hb1 CA
  go_wp2_with fail
  refine CN.out.mono ?_
  rintro e w2 ⟨rfl, hw, hsz, hk⟩
  obtain ⟨P, hP⟩ : ∃ P, P = w1.heap.size := ⟨_, rfl⟩
  rw [← hP] at hw ⊢
  have HS := Lib.hid (show Sm w P [] [] (.slice none 0 0) w2 from ⟨none, hw, World.ownsRow_nil _ _ _ _, by simp [Value.ownBlock], fun k hk => by simp [Value.ownBlock] at hk, H1.out.trans (hk.below H1.out.size (fun _ _ h => h))⟩)
  clear hw hsz hk hP CN u u2 u3
  go_wp2_with fail
  go_loopw [4, 29] (fun sv kv wl => ∃ (i : Nat) (aa : Option Addr) (cap : Nat), i ≤ n ∧ kv = .int .i64 i ∧ sv = .slice aa (parts.take i).flatten.length cap ∧ Sm w P (storRow parts n i) (parts.take i).flatten (.slice aa (parts.take i).flatten.length cap) wl ∧ ∀ p ∈ parts.take i, p.length ≤ 1000) (fun _ kv _ => n - (intOf kv).toNat)
  case atStart => exact ⟨0, none, 0, Nat.zero_le _, rfl, rfl, HS.out, by simp⟩
  case round =>
    clear HS
    obtain ⟨i, aa, cap, hi, rfl, rfl, hS, hps⟩ := hrel
    by_cases hlt : i < n
    · obtain ⟨p, b, off, a', m, c', hp, rfl, hcell0, hm, hby⟩ := HT.out.at hlt
      have hcell := (World.cell?_of_block (w := w) (hS.below.block _ (World.block_lt_of_cell? w _ hcell0))).trans hcell0
      clear hcell0
      have hml : p.length = m := hby.1
      have hLl := storRow_len parts n i hps (by have := HN.out; omega)
      have hfl := flat_len parts i hps
      by_cases hbig : 1000 < m
      · have u : decide ((1000 : Int) < (m : Int)) = true := by simp; omega
        have X := Lib.hid hS.below
        clear hS hps hby hp
        go_wp2_with fail
        go_ret
        exact ⟨rfl, X.out⟩
      · have u : decide ((1000 : Int) < (m : Int)) = false := by simp; omega
        obtain ⟨last, hlast⟩ : ∃ last, last = (if i + 1 = n then 1 else 0) := ⟨_, rfl⟩
        have hl2 : last < 2 := by rw [hlast]; split <;> omega
        obtain ⟨L0, hL0⟩ : ∃ L0, L0 = storRow parts n i := ⟨_, rfl⟩
        obtain ⟨al, hal⟩ : ∃ al, al = (parts.take i).flatten := ⟨_, rfl⟩
        rw [← hal, ← hL0] at hS
        rw [← hL0] at hLl
        rw [← hal] at hfl
        rw [← hal]
        obtain ⟨ol, hol⟩ : ∃ ol, ol = al.length := ⟨_, rfl⟩
        rw [← hol] at hS hfl
        rw [← hol]
        have hb8 : i ≤ 30 := by omega
        have hL8 : L0.length ≤ 270000 := by omega
        have HDEF := Lib.hid (And.intro hlast (And.intro hL0 (And.intro hal hol)))
        have HPS := Lib.hid hps
        have HP := Lib.hid hp
        have HBYT := Lib.hid hby
        have HML := Lib.hid hml
        have HBE := Lib.hid hS.below
        have C1 := Lib.hid (sm_put hS (by omega) last 1 (by omega) (by omega))
        have hand : bits .and .i64 (i : Int) 1 = ((i % 2 : Nat) : Int) := Hu.i64_odd i (by omega)
        have hsub : IntKind.i64.wrap ((n : Int) - 1) = (n : Int) - 1 := wrap_i64 _ (by omega) (by omega)
        obtain ⟨q, hq⟩ : ∃ q, q = 65535 - m := ⟨_, rfl⟩
        have hq2 : (65535 : Int) - (m : Int) = (q : Int) := by omega
        have hq3 : IntKind.i64.wrap (q : Int) = (q : Int) := wrap_i64 _ (by omega) (by omega)
        have hq65 : q ≤ 65535 := by omega
        have HQ := Lib.hid hq
        have HBYT0 := Lib.hid (show Bytes w a' m p from hby)
        clear hS hps hp hby hlast hL0 hal hol hml hq
        by_cases hend : i + 1 = n
        · obtain rfl : last = 1 := by have := HDEF.out.1; rw [if_pos hend] at this; exact this
          have t1 : (n : Int) - 1 = (i : Int) := by omega
          go_wp2_with fail
          refine C1.out.mono ?_
          rintro e3 w3 ⟨rfl, hs3⟩
          have C2 := Lib.hid (sm_put hs3 (by simp only [List.length_append, Bi.lowr_length]; omega) 0 2 (by omega) (by omega))
          clear hs3 C1
          go_wp2_with fail
          refine C2.out.mono ?_
          rintro e4 w4 ⟨rfl, hs4⟩
          have C3 := Lib.hid (sm_fill hs4 (by simp only [List.length_append, Bi.lowr_length]; omega) (i % 2) (by omega))
          clear hs4 C2
          go_wp2_with fail
          refine C3.out.mono ?_
          rintro e5 w5 ⟨rfl, hs5⟩
          have C4 := Lib.hid (sm_put hs5 (by simp only [List.length_append, Bi.lowr_length, List.length_replicate]; omega) m 16 (by omega) (by omega))
          clear hs5 C3
          go_wp2_with fail
          refine C4.out.mono ?_
          rintro e6 w6 ⟨rfl, hs6⟩
          have C5 := Lib.hid (sm_put hs6 (by simp only [List.length_append, Bi.lowr_length, List.length_replicate]; omega) q 16 (by omega) (by omega))
          clear hs6 C4
          go_wp2_with fail
          refine C5.out.mono ?_
          rintro e7 w7 ⟨rfl, hs7⟩
          obtain ⟨Lh, hLh⟩ : ∃ Lh, Lh = L0 ++ Bi.lowr 1 1 ++ Bi.lowr 0 2 ++ List.replicate ((8 - (L0 ++ Bi.lowr 1 1 ++ Bi.lowr 0 2).length % 8) % 8) (decide (i % 2 % 2 = 1)) ++ Bi.lowr m 16 ++ Bi.lowr q 16 := ⟨_, rfl⟩
          rw [← hLh] at hs7
          have hLhl : Lh.length ≤ 280000 := by rw [hLh]; simp only [List.length_append, Bi.lowr_length, List.length_replicate]; omega
          have HLH := Lib.hid hLh
          have HS7 := Lib.hid hs7
          clear hs7 C5 hLh hand
          go_wp2_with fail
          go_loopw [62] (fun kv wl => ∃ j : Nat, j ≤ m ∧ kv = .int .i64 j ∧ Sm w P (Lh ++ bytesBits (p.take j)) al (.slice aa ol cap) wl) (fun kv _ => m - (intOf kv).toNat)
          case atStart => exact ⟨0, Nat.zero_le _, rfl, by simpa [bytesBits] using HS7.out⟩
          case round =>
            clear HS7 hcell
            obtain ⟨wo, hwo⟩ : ∃ wo : World, wo = wr := ⟨_, rfl⟩
            obtain ⟨j, hj, rfl, hs⟩ := hrel
            by_cases hjm : j < m
            · obtain ⟨b2, o2, y, rfl, hy, hy256, hcy⟩ := (HBYT0.out.below hs.below).at hjm
              have hlen : (Lh ++ bytesBits (p.take j)).length ≤ 16777216 := by
                rw [List.length_append, bytesBits_length, List.length_take]
                omega
              have C6 := Lib.hid (sm_put hs hlen y 8 (by omega) (by omega))
              have HMORE := Lib.hid (show Lh ++ bytesBits (p.take j) ++ Bi.lowr y 8 = Lh ++ bytesBits (p.take (j + 1)) from by
                rw [List.take_add_one, hy]
                simp [bytesBits])
              clear hs hy hlen
              go_wp2_with fail
              refine C6.out.mono ?_
              rintro e8 w8 ⟨rfl, hs8⟩
              rw [HMORE.out] at hs8
              have X := Lib.hid hs8
              clear hs8 C6 hcy
              go_wp2_with fail
              go_roundw
              case rel => exact ⟨j + 1, hjm, by go_num, X.out⟩
              case measure => simp [intOf] <;> omega
            · obtain rfl : j = m := by omega
              have hpt : p.take j = p := List.take_of_length_le (by rw [HML.out]; exact Nat.le_refl _)
              rw [hpt] at hs
              have HS8 := Lib.hid hs
              have HPT := Lib.hid hpt
              have hbw := HBYT0.out.below hs.below
              have hown : wr.ownsRow w.heap.size 5 1 (.slice aa ol cap) ol (bys al) := by
                obtain ⟨D, q1, q2, _⟩ := hs
                rw [← HDEF.out.2.2.2] at q2
                exact q2
              have HOWN := Lib.hid hown
              have HBW := Lib.hid hbw
              have hwsz : w.heap.size ≤ wr.heap.size := hs.below.size
              have hm' := hm
              clear hs hpt hbw hown
              go_wp2_with (at_builtin; go_must (refine wpList_append_text rfl (.tmp 71) (.tmp 72) rfl w.heap.size ol (.slice aa ol cap) al rfl ?f1 a' j c' p rfl ?f2 hm.2 (by omega) (by omega) ?f3 ?f4))
              case f1 => exact HOWN.out
              case f2 => exact HBW.out
              case f3 => exact hwsz
              case f4 =>
                intro aa2 cap2 w9 hown9 hg9 hat9
                have hS9 := HS8.out.grow (show ol + j = al.length + p.length by rw [HML.out, HDEF.out.2.2.2]) hown9 hg9 hat9 (Nat.le_refl _)
                have X := Lib.hid hS9
                clear hown9 hg9 hat9 hS9
                go_wp2_with fail
                go_roundw
                case rel =>
                  have hfl2 : (parts.take (i + 1)).flatten = al ++ p := by rw [List.take_add_one, HP.out, HDEF.out.2.2.1]; simp
                  have hln2 : (parts.take (i + 1)).flatten.length = ol + j := by rw [hfl2, List.length_append, HML.out, HDEF.out.2.2.2]
                  have hgd : parts.getD i [] = p := by rw [List.getD_eq_getElem?_getD, HP.out]; rfl
                  have hrow : storRow parts n (i + 1) = Lh ++ bytesBits p := by
                    rw [storRow, ← HDEF.out.2.1, hgd, HLH.out]
                    unfold storBits
                    rw [← HDEF.out.1, HML.out, ← HQ.out]
                    simp only [List.append_assoc, List.length_append, Bi.lowr_length, Nat.mod_mod, Nat.add_assoc, Nat.reduceAdd]
                  refine ⟨i + 1, aa2, cap2, hlt, by go_num, by rw [hln2], ?_, fun p' hp' => ?_⟩
                  · rw [hln2, hrow, hfl2]; exact X.out
                  · rw [List.take_add_one, HP.out] at hp'
                    rcases List.mem_append.1 hp' with h | h
                    · exact HPS.out p' h
                    · have h' : p' = p := by simpa using h
                      rw [h', HML.out]
                      omega
                case measure => simp [intOf] <;> omega
        · obtain rfl : last = 0 := by have := HDEF.out.1; rw [if_neg hend] at this; exact this
          obtain ⟨n1, hn1⟩ : ∃ n1, n1 = n - 1 := ⟨_, rfl⟩
          have t1 : (n : Int) - 1 = (n1 : Int) := by omega
          have t2 : ((i : Int) == (n1 : Int)) = false := by simp; omega
          have t3 : decide ((i : Int) = (n1 : Int)) = false := by simp; omega
          have t4 : decide (i = n1) = false := by simp; omega
          have t5 : (i == n1) = false := by simp; omega
          have HN1 := Lib.hid hn1
          clear hn1
          go_wp2_with fail
          refine C1.out.mono ?_
          rintro e3 w3 ⟨rfl, hs3⟩
          have C2 := Lib.hid (sm_put hs3 (by simp only [List.length_append, Bi.lowr_length]; omega) 0 2 (by omega) (by omega))
          clear hs3 C1
          go_wp2_with fail
          refine C2.out.mono ?_
          rintro e4 w4 ⟨rfl, hs4⟩
          have C3 := Lib.hid (sm_fill hs4 (by simp only [List.length_append, Bi.lowr_length]; omega) (i % 2) (by omega))
          clear hs4 C2
          go_wp2_with fail
          refine C3.out.mono ?_
          rintro e5 w5 ⟨rfl, hs5⟩
          have C4 := Lib.hid (sm_put hs5 (by simp only [List.length_append, Bi.lowr_length, List.length_replicate]; omega) m 16 (by omega) (by omega))
          clear hs5 C3
          go_wp2_with fail
          refine C4.out.mono ?_
          rintro e6 w6 ⟨rfl, hs6⟩
          have C5 := Lib.hid (sm_put hs6 (by simp only [List.length_append, Bi.lowr_length, List.length_replicate]; omega) q 16 (by omega) (by omega))
          clear hs6 C4
          go_wp2_with fail
          refine C5.out.mono ?_
          rintro e7 w7 ⟨rfl, hs7⟩
          obtain ⟨Lh, hLh⟩ : ∃ Lh, Lh = L0 ++ Bi.lowr 0 1 ++ Bi.lowr 0 2 ++ List.replicate ((8 - (L0 ++ Bi.lowr 0 1 ++ Bi.lowr 0 2).length % 8) % 8) (decide (i % 2 % 2 = 1)) ++ Bi.lowr m 16 ++ Bi.lowr q 16 := ⟨_, rfl⟩
          rw [← hLh] at hs7
          have hLhl : Lh.length ≤ 280000 := by rw [hLh]; simp only [List.length_append, Bi.lowr_length, List.length_replicate]; omega
          have HLH := Lib.hid hLh
          have HS7 := Lib.hid hs7
          clear hs7 C5 hLh hand
          go_wp2_with fail
          go_loopw [62] (fun kv wl => ∃ j : Nat, j ≤ m ∧ kv = .int .i64 j ∧ Sm w P (Lh ++ bytesBits (p.take j)) al (.slice aa ol cap) wl) (fun kv _ => m - (intOf kv).toNat)
          case atStart => exact ⟨0, Nat.zero_le _, rfl, by simpa [bytesBits] using HS7.out⟩
          case round =>
            clear HS7 hcell
            obtain ⟨wo, hwo⟩ : ∃ wo : World, wo = wr := ⟨_, rfl⟩
            obtain ⟨j, hj, rfl, hs⟩ := hrel
            by_cases hjm : j < m
            · obtain ⟨b2, o2, y, rfl, hy, hy256, hcy⟩ := (HBYT0.out.below hs.below).at hjm
              have hlen : (Lh ++ bytesBits (p.take j)).length ≤ 16777216 := by
                rw [List.length_append, bytesBits_length, List.length_take]
                omega
              have C6 := Lib.hid (sm_put hs hlen y 8 (by omega) (by omega))
              have HMORE := Lib.hid (show Lh ++ bytesBits (p.take j) ++ Bi.lowr y 8 = Lh ++ bytesBits (p.take (j + 1)) from by
                rw [List.take_add_one, hy]
                simp [bytesBits])
              clear hs hy hlen
              go_wp2_with fail
              refine C6.out.mono ?_
              rintro e8 w8 ⟨rfl, hs8⟩
              rw [HMORE.out] at hs8
              have X := Lib.hid hs8
              clear hs8 C6 hcy
              go_wp2_with fail
              go_roundw
              case rel => exact ⟨j + 1, hjm, by go_num, X.out⟩
              case measure => simp [intOf] <;> omega
            · obtain rfl : j = m := by omega
              have hpt : p.take j = p := List.take_of_length_le (by rw [HML.out]; exact Nat.le_refl _)
              rw [hpt] at hs
              have HS8 := Lib.hid hs
              have HPT := Lib.hid hpt
              have hbw := HBYT0.out.below hs.below
              have hown : wr.ownsRow w.heap.size 5 1 (.slice aa ol cap) ol (bys al) := by
                obtain ⟨D, q1, q2, _⟩ := hs
                rw [← HDEF.out.2.2.2] at q2
                exact q2
              have HOWN := Lib.hid hown
              have HBW := Lib.hid hbw
              have hwsz : w.heap.size ≤ wr.heap.size := hs.below.size
              have hm' := hm
              clear hs hpt hbw hown
              go_wp2_with (at_builtin; go_must (refine wpList_append_text rfl (.tmp 71) (.tmp 72) rfl w.heap.size ol (.slice aa ol cap) al rfl ?f1 a' j c' p rfl ?f2 hm.2 (by omega) (by omega) ?f3 ?f4))
              case f1 => exact HOWN.out
              case f2 => exact HBW.out
              case f3 => exact hwsz
              case f4 =>
                intro aa2 cap2 w9 hown9 hg9 hat9
                have hS9 := HS8.out.grow (show ol + j = al.length + p.length by rw [HML.out, HDEF.out.2.2.2]) hown9 hg9 hat9 (Nat.le_refl _)
                have X := Lib.hid hS9
                clear hown9 hg9 hat9 hS9
                go_wp2_with fail
                go_roundw
                case rel =>
                  have hfl2 : (parts.take (i + 1)).flatten = al ++ p := by rw [List.take_add_one, HP.out, HDEF.out.2.2.1]; simp
                  have hln2 : (parts.take (i + 1)).flatten.length = ol + j := by rw [hfl2, List.length_append, HML.out, HDEF.out.2.2.2]
                  have hgd : parts.getD i [] = p := by rw [List.getD_eq_getElem?_getD, HP.out]; rfl
                  have hrow : storRow parts n (i + 1) = Lh ++ bytesBits p := by
                    rw [storRow, ← HDEF.out.2.1, hgd, HLH.out]
                    unfold storBits
                    rw [← HDEF.out.1, HML.out, ← HQ.out]
                    simp only [List.append_assoc, List.length_append, Bi.lowr_length, Nat.mod_mod, Nat.add_assoc, Nat.reduceAdd]
                  refine ⟨i + 1, aa2, cap2, hlt, by go_num, by rw [hln2], ?_, fun p' hp' => ?_⟩
                  · rw [hln2, hrow, hfl2]; exact X.out
                  · rw [List.take_add_one, HP.out] at hp'
                    rcases List.mem_append.1 hp' with h | h
                    · exact HPS.out p' h
                    · have h' : p' = p := by simpa using h
                      rw [h', HML.out]
                      omega
                case measure => simp [intOf] <;> omega
    · obtain rfl : i = n := by omega
      have hpl : parts.length = i := HN.out
      have htk : parts.take i = parts := List.take_of_length_le (by omega)
      have hLl := storRow_len parts i i hps (by omega)
      have hfl := flat_len parts i hps
      rw [htk] at hS hps hfl ⊢
      have hall := stor_all (T := ∀ P R D w1, ToldOK w1 P R D (Bi.packedN false (storRow parts i i)) (parts.flatten.length : Nat) noTab) (tab := noTab) (most := ((parts.flatten.length : Nat) : Int)) parts i hpl h1 HBY.out (fun p hp => by have := hps p hp; omega) (Int.le_refl _) i 0 (8 * (Bi.packedN false (storRow parts i i)).length + 1) (by omega) (by omega) (by
        rw [Bi.packedN_length]
        have h9 : ∀ k, k ≤ i → k ≤ (storRow parts i k).length := by
          intro k
          induction k with
          | zero => intro _; omega
          | succ k ih =>
            intro hk
            have := ih (by omega)
            rw [storRow, List.length_append, storBits_length]
            omega
        have := h9 i (Nat.le_refl _)
        omega)
      have hst0 : (⟨(storRow parts i 0).length, (parts.take 0).flatten, 0⟩ : St) = ⟨0, [], 0⟩ := rfl
      rw [hst0] at hall
      obtain ⟨al, hal⟩ : ∃ al, al = parts.flatten := ⟨_, rfl⟩
      rw [← hal] at hS hfl hall ⊢
      obtain ⟨L, hL⟩ : ∃ L, L = storRow parts i i := ⟨_, rfl⟩
      rw [← hL] at hS hLl hall
      have HALL := Lib.hid hall
      have HALB := Lib.hid (show ∀ x ∈ al, x < 256 from by
        intro x hx
        rw [hal, List.mem_flatten] at hx
        obtain ⟨p, hp, hx⟩ := hx
        exact HBY.out p hp x hx)
      obtain ⟨D, s1, s2, s3, s4, s5⟩ := hS
      have CB := Lib.hid (Bi.bytes_any wr w.heap.size P D false L s1 (by omega))
      have HO := Lib.hid (And.intro s2 s5)
      obtain ⟨ol, hol⟩ : ∃ ol, ol = al.length := ⟨_, rfl⟩
      rw [← hol] at hfl ⊢
      have HOL := Lib.hid hol
      clear hps hall hal hL s1 s2 s3 s4 s5 htk hol hpl
      go_wp2_with fail
      refine CB.out.mono ?_
      intro e3 w3 h3
      obtain ⟨bb, cb, rfl, hown3, hb3⟩ := told_bytes h3
      obtain ⟨ys, hys⟩ : ∃ ys, ys = Bi.packedN false L := ⟨_, rfl⟩
      have hyb : ∀ y ∈ ys, y < 256 := by rw [hys]; exact Bi.packedN_byte false L
      have hyl : ys.length = (L.length + 7) / 8 := by rw [hys]; exact Bi.packedN_length false L
      rw [← hys] at hown3 ⊢
      have hby3 := (bytes_of_own hown3 hyb).1
      have hal2 := HALL.out
      rw [← hys, HOL.out.symm] at hal2
      have CI := Lib.hid (inflate_any w3 bb ys.length cb ys hby3 (by omega) ol (by omega) noTab noTab_on (by
        have h := hal2.2
        refine inflOk_mono (fun hT P R D => hT P R D w3) _ _ h))
      rw [hal2.1] at CI
      have HB3 := Lib.hid (And.intro hb3 hyl)
      obtain ⟨yl, hyl2⟩ : ∃ yl, yl = ys.length := ⟨_, rfl⟩
      rw [← hyl2] at CI ⊢
      have HYL := Lib.hid (And.intro hyl2 hyl)
      clear h3 hown3 hb3 hyb hyl hby3 hal2 CB hys hyl2
      go_wp2_with fail
      refine CI.out.mono ?_
      rintro e4 w4 ⟨hb4, -, -, -, hcase⟩
      rcases hcase with ⟨he, -⟩ | ⟨-, dd, cd, rfl, hown4⟩
      · exact absurd rfl he
      have hb34 : Below wr.heap.size wr w4 := below_more HB3.out.1 hb4 (Nat.le_refl _)
      have hx := (bytes_of_own hown4 HALB.out).1
      have hz := (bytes_of_own (own_kept2 HO.out.1 (fun g e => hb34.block g (own_lt2 HO.out.1 g e).2)) HALB.out).1
      simp only at hx
      rw [← HOL.out] at hx hz ⊢
      have CS := Lib.hid (same_yes w4 dd ol cd aa cap al hx hz (by omega))
      have HF := Lib.hid (show Below w.heap.size w w4 from below_more HO.out.2 hb34 (Nat.le_refl _))
      have hus : (L.length + 7) / 8 = yl := by rw [HYL.out.1, HYL.out.2]
      rw [hus]
      clear hb4 hown4 hb34 hx hz CI hus
      go_wp2_with fail
      refine CS.out.mono ?_
      rintro e5 w5 ⟨rfl, q5, rfl⟩
      have HF2 := Lib.hid (show Below w.heap.size w (w4.drewN q5) from HF.out.trans ⟨rfl, rfl, rfl, Nat.le_refl _, fun _ _ => rfl⟩)
      generalize w4.drewN q5 = w6 at *
      go_wp2_with fail
      go_ret
      exact ⟨rfl, HF2.out⟩
end Go.Proofs.YtpmoknnhgginjaaDoor.Law
