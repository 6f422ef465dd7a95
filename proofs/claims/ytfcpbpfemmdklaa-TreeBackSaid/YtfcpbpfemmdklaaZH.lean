/- Pixels (68, 54), shifts (55), a layer of a kind (53). -/
import Derived.Test.YtfcpbpfemmdklaaU
import Derived.Test.YtfcpbpfemmdklaaYA
namespace Go.Proofs.Ytfcpbpfemmdklaa
open Go.RowKit Go.Lib
set_option linter.unusedSimpArgs false
set_option linter.unusedVariables false

theorem i64_mask8 (x : Int) : bits .and .i64 x 255 = x % 256 := by
  show IntKind.i64.wrap ((BitVec.ofInt 64 x &&& BitVec.ofInt 64 255).toNat : Int) = _
  rw [BitVec.toNat_and, BitVec.toNat_ofInt]
  have h : ((BitVec.ofInt 64 255).toNat) = 2 ^ 8 - 1 := by decide
  rw [h, Nat.and_two_pow_sub_one_eq_mod]
  rw [wrap_i64 _ (by omega) (by omega)]
  omega
def px0 (v : Int) : Int := v / 16777216 % 256
def px1 (v : Int) : Int := v / 65536 % 256
def px2 (v : Int) : Int := v / 256 % 256
def px3 (v : Int) : Int := v % 256
/-- Is it a pixel with no colour above its alpha? -/
def pixB (v : Int) : Bool := (decide (0 ≤ v) && decide (v ≤ 4294967295)) && (decide (px0 v ≤ px3 v) && (decide (px1 v ≤ px3 v) && decide (px2 v ≤ px3 v)))
set_option maxHeartbeats 800000 in
theorem split68 (v : Int) (h : 0 ≤ v ∧ v ≤ 4294967295) (w : World) : Calls Try.prog 68 #[.int .i64 v] w fun e w' =>
    e = .returned (.agg #[.int .i64 (px0 v), .int .i64 (px1 v), .int .i64 (px2 v), .int .i64 (px3 v)]) ∧ Keeps none' w w' := by
  have m0 := i64_mask8 (v / 16777216)
  have m1 := i64_mask8 (v / 65536)
  have m2 := i64_mask8 (v / 256)
  have m3 := i64_mask8 v
  rw [show v / 16777216 % 256 = px0 v from rfl] at m0
  rw [show v / 65536 % 256 = px1 v from rfl] at m1
  rw [show v / 256 % 256 = px2 v from rfl] at m2
  rw [show v % 256 = px3 v from rfl] at m3
  obtain ⟨h0, h1⟩ := h
  generalize px0 v = a at *
  generalize px1 v = b at *
  generalize px2 v = c at *
  generalize px3 v = d at *
  have K0 := Lib.hid ((Keeps.refl none' w).alloc (.cells #[.int .i64 a, .int .i64 b, .int .i64 c, .int .i64 d] 106))
  go_enter Try.func68, Try.ntmps68
  go_wp2_with fail
  refine bodyPost_ret (results_cell_row rfl _ _ w.heap.size 106 #[.int .i64 a, .int .i64 b, .int .i64 c, .int .i64 d] (0, 0) _ rfl (heap_alloc_new _ _) Try.underlying106 rfl (by kernel_rfl)) rfl ?_
  exact ⟨rfl, K0.out⟩
theorem px_bounds (v : Int) : (0 ≤ px0 v ∧ px0 v ≤ 255) ∧ (0 ≤ px1 v ∧ px1 v ≤ 255) ∧ (0 ≤ px2 v ∧ px2 v ≤ 255) ∧ (0 ≤ px3 v ∧ px3 v ≤ 255) := by
  unfold px0 px1 px2 px3
  omega
theorem meas_lt {n i : Nat} (h : i < n) {x : Int} (e : x = (i : Int) + 1) : n - (intOf (Value.int IntKind.i64 x)).toNat < n - (intOf (Value.int IntKind.i64 (i : Int))).toNat := by
  rw [e]
  show n - ((i : Int) + 1).toNat < n - ((i : Int)).toNat
  omega
/-- The greatest of three is above a number. -/
theorem max3_lt {p0 p1 p2 p3 mx : Int} (hmx : mx = (if (if p0 < p1 then p1 else p0) < p2 then p2 else if p0 < p1 then p1 else p0)) : p3 < mx ↔ ¬ (p0 ≤ p3 ∧ (p1 ≤ p3 ∧ p2 ≤ p3)) := by
  rw [hmx]
  split <;> split <;> omega
set_option maxRecDepth 100000 in
set_option maxHeartbeats 1600000 in
/-- Are all of these pixels? There is a row. -/
theorem pixels54_some (b o n c : Nat) (l : List Int) (w : World) (D : ReadR w 3 1 ⟨some ⟨b, o, none⟩, n, c⟩ (ints l)) : Calls Try.prog 54 #[.slice (some ⟨b, o, none⟩) n c] w fun e w' => e = .returned (.bool (l.all pixB)) ∧ Keeps none' w w' := by
  have HD := Lib.hid D
  have hl : l.length = n := by
    have := D.1.len
    simpa [ints] using this
  have hn : n ≤ 536870912 := D.2
  have HL := Lib.hid (And.intro hl hn)
  clear D hl hn
  go_enter Try.func54, Try.ntmps54
  go_wp2_with fail
  go_loopw [8] (fun s8 wr => ∃ i : Nat, i ≤ n ∧ s8 = .int .i64 i ∧ (l.take i).all pixB = true ∧ Keeps none' w wr) (fun s8 _ => n - (intOf s8).toNat)
  case atStart => exact ⟨0, Nat.zero_le _, rfl, by simp, Keeps.refl _ _⟩
  case round =>
    obtain ⟨i, hi, rfl, ha, hk⟩ := hrel
    have HA := Lib.hid ha
    have K := Lib.hid hk
    clear ha hk
    by_cases hlt : i < n
    · have tk : decide ((i : Int) < (n : Int)) = true := by simp; omega
      have tk2 : decide (i < n) = true := by simp; omega
      obtain ⟨v, hv⟩ : ∃ v, l[i]? = some v := ⟨_, List.getElem?_eq_getElem (by have := HL.out.1; omega)⟩
      have ce : wr.cell? ⟨b, o + i, none⟩ = some (.int .i64 v) := K.out.cell ((HD.out.1.at' _ rfl).2.2 i _ (by unfold ints; rw [List.getElem?_map, hv]; rfl))
      have HV := Lib.hid hv
      have TK := Lib.hid (show l.take (i + 1) = l.take i ++ [v] from take_more hv)
      clear hv
      have hb : (i : Int) < 536870912 := by have := HL.out.2; omega
      have iw : wrap64 ((i : Int) + 1) = (i : Int) + 1 := wrap64_id _ (by omega) (by omega)
      have U := Lib.hid (fun w' => upto46 v 4294967295 w')
      by_cases hp : 0 ≤ v ∧ v ≤ 4294967295
      · have hu : (decide (0 ≤ v) && decide (v ≤ 4294967295)) = true := by simp [hp.1, hp.2]
        simp only [hu] at U
        have SP := Lib.hid (fun w' => split68 v hp w')
        have pb := px_bounds v
        have HP := Lib.hid hu
        obtain ⟨p0, hp0⟩ : ∃ p0, p0 = px0 v := ⟨_, rfl⟩
        obtain ⟨p1, hp1⟩ : ∃ p1, p1 = px1 v := ⟨_, rfl⟩
        obtain ⟨p2, hp2⟩ : ∃ p2, p2 = px2 v := ⟨_, rfl⟩
        obtain ⟨p3, hp3⟩ : ∃ p3, p3 = px3 v := ⟨_, rfl⟩
        have PB := Lib.hid (show pixB v = (decide (p0 ≤ p3) && (decide (p1 ≤ p3) && decide (p2 ≤ p3))) from by unfold pixB; rw [hu, hp0, hp1, hp2, hp3]; simp)
        rw [← hp0, ← hp1, ← hp2, ← hp3] at SP
        clear hp hu pb hp0 hp1 hp2 hp3
        go_upto_if 26 with (first
          | ((with_reducible refine (U.out _).mono ?_); rintro en w3 ⟨rfl, hw⟩; subst hw)
          | ((with_reducible refine (SP.out _).mono ?_); rintro en w4 ⟨rfl, hk4⟩; have K4 := Lib.hid (K.out.next hk4); clear hk4))
        have K5 := Lib.hid (K4.out.alloc (.cells #[.int .i64 p0, .int .i64 p1, .int .i64 p2, .int .i64 p3] 106))
        generalize w4.alloc (.cells #[.int .i64 p0, .int .i64 p1, .int .i64 p2, .int .i64 p3] 106) = w5 at *
        obtain ⟨mx, hmx⟩ : ∃ mx, mx = (if (if p0 < p1 then p1 else p0) < p2 then p2 else if p0 < p1 then p1 else p0) := ⟨_, rfl⟩
        rw [← hmx]
        have ML : p3 < mx ↔ ¬ (p0 ≤ p3 ∧ (p1 ≤ p3 ∧ p2 ≤ p3)) := by
          exact max3_lt hmx
        have IW := Lib.hid (And.intro hb iw)
        clear hmx U SP ce tk tk2 hb iw
        by_cases t : p3 < mx
        · have d1 : decide (p3 < mx) = true := by simpa using t
          have NP := Lib.hid (show l.all pixB = false from by
            rw [List.all_eq_false]
            refine ⟨v, List.mem_of_getElem? HV.out, ?_⟩
            rw [PB.out]
            have := ML.1 t
            simpa using this)
          clear ML
          go_wp2_with fail
          go_ret
          exact ⟨by rw [NP.out]; rfl, K5.out⟩
        · have d1 : decide (p3 < mx) = false := by simpa using t
          have ALL := Lib.hid (show (l.take (i + 1)).all pixB = true from by
            rw [TK.out, List.all_append, HA.out]
            have h9 : p0 ≤ p3 ∧ (p1 ≤ p3 ∧ p2 ≤ p3) := by
              by_cases h8 : p0 ≤ p3 ∧ (p1 ≤ p3 ∧ p2 ≤ p3)
              · exact h8
              · exact absurd (ML.2 h8) t
            simp [PB.out, h9.1, h9.2.1, h9.2.2])
          have iw := IW.out.2
          clear ML
          go_wp2_with fail
          go_roundw
          case rel => exact ⟨i + 1, Nat.succ_le_of_lt hlt, by (show Value.int .i64 (wrap64 ((i : Int) + 1)) = Value.int .i64 ((i + 1 : Nat) : Int)); rw [iw]; rfl, ALL.out, K5.out⟩
          case measure => exact meas_lt hlt iw
      · have hu : (decide (0 ≤ v) && decide (v ≤ 4294967295)) = false := by
          cases hq : (decide (0 ≤ v) && decide (v ≤ 4294967295)) with
          | false => rfl
          | true => simp at hq; exact absurd hq hp
        simp only [hu] at U
        have NP := Lib.hid (show l.all pixB = false from by
          rw [List.all_eq_false]
          exact ⟨v, List.mem_of_getElem? HV.out, by unfold pixB; rw [hu]; simp⟩)
        clear hp hu
        go_wp2_with ((with_reducible refine (U.out _).mono ?_); rintro en w3 ⟨rfl, hw⟩; subst hw)
        go_ret
        exact ⟨by rw [NP.out]; rfl, K.out⟩
    · obtain rfl : i = n := by omega
      have tk : decide ((i : Int) < (i : Int)) = false := by simp
      have FA := Lib.hid (show l.all pixB = true from by
        have := HA.out
        rw [List.take_of_length_le (by have := HL.out.1; omega)] at this
        exact this)
      go_wp2_with fail
      go_ret
      exact ⟨by rw [FA.out]; rfl, K.out⟩
set_option maxHeartbeats 800000 in
theorem pixels54_none (w : World) : Calls Try.prog 54 #[.slice none 0 0] w fun e w' => e = .returned (.bool true) ∧ Keeps none' w w' := by
  go_enter Try.func54, Try.ntmps54
  go_wp2_with fail
  go_loopw [8] (fun s8 wr => s8 = .int .i64 0 ∧ Keeps none' w wr) (fun _ _ => 0)
  case atStart => exact ⟨rfl, Keeps.refl _ _⟩
  case round =>
    obtain ⟨rfl, hk⟩ := hrel
    have K := Lib.hid hk
    clear hk
    go_wp2_with fail
    go_ret
    exact ⟨rfl, K.out⟩
/-- Are all of these pixels? -/
theorem pixels54 (h : Hd) (l : List Int) (w : World) (D : ReadR w 3 1 h (ints l)) : Calls Try.prog 54 #[.slice h.a h.n h.c] w fun e w' => e = .returned (.bool (l.all pixB)) ∧ Keeps none' w w' := by
  obtain ⟨a, n, c⟩ := h
  cases a with
  | none =>
    obtain ⟨h1, h2⟩ := D.1.abs rfl
    have h1' : n = 0 := h1
    have h2' : c = 0 := h2
    subst h1' h2'
    have hl : l = [] := by
      have := D.1.len
      simp [ints] at this
      exact this
    subst hl
    exact pixels54_none w
  | some x =>
    obtain ⟨h1, -, -⟩ := D.1.at' x rfl
    obtain ⟨b, o, sp⟩ := x
    simp only at h1
    subst h1
    exact pixels54_some b o n c l w D
def shiftP (n : Int) : Bool := decide (-32768 ≤ n) && decide (n ≤ 32768)
set_option maxHeartbeats 400000 in
theorem shift55 (n : Int) (w : World) : Calls Try.prog 55 #[.int .i64 n] w fun e w' => e = .returned (.bool (shiftP n)) ∧ w' = w := by
  unfold shiftP
  by_cases h : -32768 ≤ n
  · have a1 : decide (n ≥ -32768) = true := by simpa using h
    by_cases h2 : n ≤ 32768
    · have b1 : decide (n ≤ 32768) = true := by simpa using h2
      go_enter Try.func55, Try.ntmps55
      go_wp2
      go_ret
      exact ⟨by simp [h, h2], rfl⟩
    · have b1 : decide (n ≤ 32768) = false := by simpa using h2
      go_enter Try.func55, Try.ntmps55
      go_wp2
      go_ret
      exact ⟨by simp [h, h2], rfl⟩
  · have a1 : decide (n ≥ -32768) = false := by simpa using h
    go_enter Try.func55, Try.ntmps55
    go_wp2
    go_ret
    exact ⟨by simp [h], rfl⟩
/-- What is answered of a layer of a kind. -/
def kindV (id kind : Int) (xs : List Spt) : Option Addr × Int :=
  if id = 0 then (none, 41) else match findP id xs with
  | none => (none, 40)
  | some X => if X.l.dat.kind = kind then (some ⟨X.b, X.o, none⟩, 0) else (none, 41)
set_option maxRecDepth 100000 in
set_option maxHeartbeats 1600000 in
theorem kind53 (R : Nat) (x y z : Int) (h : Hd) (ls : List Loc) (id kind : Int) (w : World) (C : Dc w R x y z h) (D : DocV w h ls) (hc : cnt ls ≤ 1099511627776) :
    Calls Try.prog 53 #[.pointer (some ⟨R, 0, none⟩), .int .i64 id, .int .i64 kind] w fun e w' => e = .returned (.tuple #[.pointer (kindV id kind (sps 0 R 3 0 h.b h.o 0 ls)).1, .int .i64 (kindV id kind (sps 0 R 3 0 h.b h.o 0 ls)).2]) ∧ Keeps none' w w' := by
  by_cases h0 : id = 0
  · have KV := Lib.hid (show kindV id kind (sps 0 R 3 0 h.b h.o 0 ls) = (none, 41) from by unfold kindV; rw [if_pos h0])
    have e0 : (id == 0) = true := by simpa using h0
    clear h0
    go_enter Try.func53, Try.ntmps53
    go_wp2_with fail
    go_ret2
    rw [KV.out]
    exact ⟨rfl, Keeps.refl _ _⟩
  · have e0 : (id == 0) = false := by simpa using h0
    have LA := layer57 R x y z h ls id w C D hc
    cases hf : findP id (sps 0 R 3 0 h.b h.o 0 ls) with
    | none =>
      have KV := Lib.hid (show kindV id kind (sps 0 R 3 0 h.b h.o 0 ls) = (none, 40) from by unfold kindV; rw [if_neg h0, hf])
      rw [hf] at LA
      have L := Lib.hid LA
      clear LA hf h0
      go_enter Try.func53, Try.ntmps53
      go_wp2_with ((with_reducible refine L.out.mono ?_); rintro en w2 ⟨rfl, hk⟩; have K := Lib.hid hk; clear hk)
      go_ret2
      rw [KV.out]
      exact ⟨rfl, K.out⟩
    | some X =>
      have KV := Lib.hid (show kindV id kind (sps 0 R 3 0 h.b h.o 0 ls) = if X.l.dat.kind = kind then (some ⟨X.b, X.o, none⟩, 0) else (none, 41) from by unfold kindV; rw [if_neg h0, hf])
      rw [hf] at LA
      have L := Lib.hid LA
      obtain ⟨h', ls', off, hh', hl', ha', ho', -⟩ := sps_valid ((D.home C).low) (by rw [Nat.zero_add]; exact hc) X (List.mem_of_find?_eq_some hf)
      have HK := Lib.hid (show w.cell? ⟨X.b, X.o + 1, none⟩ = some (.int .i64 X.l.dat.kind) from by
        obtain ⟨b', o', e, hc⟩ := hh'.home.lies (by have := (List.getElem?_eq_some_iff.1 hl').1; omega)
        rw [ha'] at e
        cases e
        rw [ho']
        exact hc X.i X.l hl' 1 _ (by cases X.l; rfl))
      clear LA hf h0 hh' hl' ha' ho'
      by_cases hk : X.l.dat.kind = kind
      · rw [if_pos hk] at KV
        have e1 : (X.l.dat.kind != kind) = false := by simp [hk]
        clear hk
        go_enter Try.func53, Try.ntmps53
        go_wp2_with ((with_reducible refine L.out.mono ?_); rintro en w2 ⟨rfl, hk⟩; have K := Lib.hid hk; have kd := hk.cell HK.out; clear hk)
        go_ret2
        rw [KV.out]
        exact ⟨rfl, K.out⟩
      · rw [if_neg hk] at KV
        have e1 : (X.l.dat.kind != kind) = true := by simpa using hk
        clear hk
        go_enter Try.func53, Try.ntmps53
        go_wp2_with ((with_reducible refine L.out.mono ?_); rintro en w2 ⟨rfl, hk⟩; have K := Lib.hid hk; have kd := hk.cell HK.out; clear hk)
        go_ret2
        rw [KV.out]
        exact ⟨rfl, K.out⟩
end Go.Proofs.Ytfcpbpfemmdklaa
