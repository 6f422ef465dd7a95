/- The walks of there and of LzTight. -/
import Derived.Test.YtaandnikamnbbaaO
namespace Go.Proofs.Ytaandnikamnbbaa
open Go.RowKit
set_option linter.unusedVariables false

/-- A bool that is true just where three bytes stood ahead. -/
def Ahead (ys : List Nat) (p : Nat) (w : World) (e : Ending) (w' : World) : Prop := ∃ b : Bool, e = .returned (.bool b) ∧ (b = true → There ys p) ∧ Below w.heap.size w w'
theorem three_of {ys : List Nat} {p : Nat} (h : p + 2 < ys.length) : (ys.drop p).take 3 = [ys.getD p 0, ys.getD (p + 1) 0, ys.getD (p + 2) 0] := by
  rw [drop_three h]; rfl
theorem Arg.part {w : World} {b off n c p : Nat} {ys : List Nat} (h : Arg w (some ⟨b, off, none⟩) n c ys) (hp : p + 3 ≤ n) : Arg w (some ⟨b, off + p, none⟩) 3 (c - p) ((ys.drop p).take 3) :=
  ⟨h.three hp, by have := h.2.1; omega, fun e => by cases e⟩

theorem strOf_inj2 {xs ys : List Nat} (hx : ∀ x ∈ xs, x < 256) (hy : ∀ y ∈ ys, y < 256) (h : (strOf xs).toList = (strOf ys).toList) : xs = ys := by
  rw [ByteArray.toList_eq, ByteArray.toList_eq] at h
  exact strOf_inj hx hy (ByteArray.ext (Array.toList_inj.1 h))

set_option maxRecDepth 100000 in
set_option maxHeartbeats 1600000 in
theorem there_any (w : World) (a : Option Addr) (n c : Nat) (ys : List Nat) (p : Nat) (h : Arg w a n c ys) (hn : n ≤ 16777215) (hp : p ≤ 16777215) :
    Calls Try.prog 12 #[.slice a n c, .int .i64 p] w (Ahead ys p w) := by
  have HA := Lib.hid h
  have hyl : ys.length = n := h.1.1
  have HYL := Lib.hid (And.intro hyl h.1.2.1)
  have hcap : n ≤ c := h.2.1
  by_cases hbig : n < p + 3
  · have u : decide ((n : Int) < (p : Int) + 3) = true := by simp; omega
    clear h hyl
    go_enter Try.func12, Try.ntmps12
    go_wp2_with fail
    go_ret
    exact ⟨false, rfl, (fun e => by cases e), Below.refl _ _⟩
  · have u : decide ((n : Int) < (p : Int) + 3) = false := by simp; omega
    obtain ⟨b, off, y, rfl, _⟩ := h.1.at (i := p) (by omega)
    obtain ⟨p3, hp3⟩ : ∃ p3, p3 = p + 3 := ⟨_, rfl⟩
    have HP3 := Lib.hid hp3
    clear h hyl hp3
    go_enter Try.func12, Try.ntmps12
    go_wp2_with fail
    go_loopw [5] (fun cnt wl => ∃ d q : Nat, 1 ≤ d ∧ d ≤ 16777217 ∧ cnt = .int .i64 d ∧ wl = w.drewN q) (fun cnt _ => 16777217 - (intOf cnt).toNat)
    case atStart => exact ⟨1, 0, Nat.le_refl _, by omega, rfl, rfl⟩
    case round =>
      obtain ⟨d, q, hd1, hd2, rfl, rfl⟩ := hrel
      by_cases hdp : d ≤ p
      · have u1 : decide (d ≤ p) = true := by simpa using hdp
        by_cases hd3 : d ≤ 32768
        · have u2 : decide ((d : Int) ≤ 32768) = true := by simp; omega
          obtain ⟨r, hr⟩ : ∃ r, r = p - d := ⟨_, rfl⟩
          obtain ⟨r3, hr3⟩ : ∃ r3, r3 = r + 3 := ⟨_, rfl⟩
          have hyl := HYL.out.1
          have s1 : ∀ k, (convert 24 9 (.slice (some ⟨b, off + r, none⟩) 3 (c - r))).run Try.prog (w.drewN k) = .ok (.string (strOf ((ys.drop r).take 3))) (w.drewN k) := fun k =>
            conv_arg (w := w.drewN k) ((HA.out.part (p := r) (by omega)).below ⟨rfl, rfl, rfl, Nat.le_refl _, fun _ _ => rfl⟩)
          have s2 : ∀ k, (convert 24 9 (.slice (some ⟨b, off + p, none⟩) 3 (c - p))).run Try.prog (w.drewN k) = .ok (.string (strOf ((ys.drop p).take 3))) (w.drewN k) := fun k =>
            conv_arg (w := w.drewN k) ((HA.out.part (p := p) (by omega)).below ⟨rfl, rfl, rfl, Nat.le_refl _, fun _ _ => rfl⟩)
          have heq : (strOf ((ys.drop r).take 3)).toList = (strOf ((ys.drop p).take 3)).toList → There ys p := fun e => by
            have e2 := strOf_inj2 (fun x hx => HYL.out.2 x (List.mem_of_mem_drop (List.mem_of_mem_take hx))) (fun x hx => HYL.out.2 x (List.mem_of_mem_drop (List.mem_of_mem_take hx))) e
            rw [three_of (by omega), three_of (by omega)] at e2
            simp only [List.cons.injEq, and_true] at e2
            refine ⟨by omega, d, hd1, hdp, hd3, ?_⟩
            rw [Lz.same3_iff, ← hr]
            exact e2
          have HEQ := Lib.hid heq
          generalize strOf ((ys.drop r).take 3) = sr at *
          generalize strOf ((ys.drop p).take 3) = sp at *
          have hnr : ¬ c = r := by omega
          have hnp : ¬ c = p := by omega
          have h33 : r3 - r = 3 := by omega
          have h34 : p3 - p = 3 := by have := HP3.out; omega
          have hr3c : r3 ≤ c := by omega
          have hp3c : p3 ≤ c := by have := HP3.out; omega
          have hrr3 : r ≤ r3 := by omega
          have hpp3 : p ≤ p3 := by have := HP3.out; omega
          have k1 : IntKind.i64.wrap ((p : Int) - (d : Int)) = (r : Int) := by rw [wrap_i64 _ (by omega) (by omega)]; omega
          have k2 : IntKind.i64.wrap ((r : Int) + 3) = (r3 : Int) := by rw [wrap_i64 _ (by omega) (by omega)]; omega
          have k3 : IntKind.i64.wrap ((p : Int) + 3) = (p3 : Int) := by have := HP3.out; rw [wrap_i64 _ (by omega) (by omega)]; omega
          clear heq hyl hr hr3
          go_wp2_with fail
          go_quiet (fail)
          clear k1 k2 k3 s1 s2 h33 h34
          obtain ⟨bb, hbb⟩ : ∃ bb, bb = (sr.toList == sp.toList) := ⟨_, rfl⟩
          rw [← hbb]
          have HTH := Lib.hid (show bb = true → There ys p from fun e => HEQ.out (by rw [hbb] at e; simpa using e))
          clear hbb HEQ
          cases bb
          · go_wp2_with fail
            go_roundw
            case rel => exact ⟨d + 1, q + nq, by omega, by omega, by go_num, by first | rfl | exact World.drewN_drewN⟩
            case measure => simp [intOf]; omega
          · go_wp2_with fail
            go_ret
            exact ⟨true, rfl, fun _ => HTH.out (by simp), ⟨rfl, rfl, rfl, Nat.le_refl _, fun _ _ => rfl⟩⟩
        · have u2 : decide ((d : Int) ≤ 32768) = false := by simp; omega
          go_wp2_with fail
          go_ret
          exact ⟨false, rfl, (fun e => by cases e), ⟨rfl, rfl, rfl, Nat.le_refl _, fun _ _ => rfl⟩⟩
      · have u1 : decide (d ≤ p) = false := by simpa using hdp
        go_wp2_with fail
        go_ret
        exact ⟨false, rfl, (fun e => by cases e), ⟨rfl, rfl, rfl, Nat.le_refl _, fun _ _ => rfl⟩⟩

set_option maxRecDepth 100000 in
set_option maxHeartbeats 1600000 in
theorem tight_out (w : World) (a : Option Addr) (n c : Nat) (effort : Int) (h : 600 < n ∨ effort < 1) :
    Calls Try.prog 5 #[.slice a n c, .int .i64 effort] w (Yes w) := by
  have CA := Lib.hid (anchor_any w)
  by_cases h1 : 600 < n
  · have u1 : decide ((600 : Int) < (n : Int)) = true := by simp; omega
    go_enter Try.func5, Try.ntmps5
    go_wp2_with fail
    refine CA.out.mono ?_
    rintro e w1 ⟨rfl, hb⟩
    have X := Lib.hid hb
    clear hb
    go_wp2_with fail
    go_ret
    exact ⟨rfl, X.out⟩
  · have u1 : decide ((600 : Int) < (n : Int)) = false := by simp; omega
    have u2 : decide (effort < 1) = true := by simp; omega
    go_enter Try.func5, Try.ntmps5
    go_wp2_with fail
    refine CA.out.mono ?_
    rintro e w1 ⟨rfl, hb⟩
    have X := Lib.hid hb
    clear hb
    go_wp2_with fail
    go_ret
    exact ⟨rfl, X.out⟩

set_option maxRecDepth 100000 in
set_option maxHeartbeats 3200000 in
theorem tight_good (w : World) (a : Option Addr) (n c : Nat) (ys : List Nat) (effort : Int) (h : Arg w a n c ys) (he : 1 ≤ effort ∧ effort ≤ 9223372036854775807) (hn : n ≤ 600) :
    Calls Try.prog 5 #[.slice a n c, .int .i64 effort] w (Yes w) := by
  have CA := Lib.hid (anchor_any w)
  have u1 : decide ((600 : Int) < (n : Int)) = false := by simp; omega
  have u2 : decide (effort < 1) = false := by simp; omega
  have hyl : ys.length = n := h.1.1
  have HS := Lib.hid (And.intro (found_spell h.1.2.1 effort) (And.intro (found_snug h.1.2.1 effort he.1) (found_all h.1.2.1 effort).few))
  have HYL := Lib.hid hyl
  have HA := Lib.hid h
  clear h hyl
  go_enter Try.func5, Try.ntmps5
  go_wp2_with fail
  refine CA.out.mono ?_
  rintro e w1 ⟨rfl, hb⟩
  have HW := Lib.hid hb
  have A1 := Lib.hid (HA.out.below hb)
  have C2 := Lib.hid (find_any w1 a n c ys effort (HA.out.below hb) (by omega) (by omega))
  clear hb CA HA
  generalize found ys effort = ts at *
  have htl : ts.length ≤ 600 := by have := HS.out.2.2; rw [HYL.out] at this; omega
  go_wp2_with fail
  refine C2.out.mono ?_
  rintro e w2 ⟨al, cl, rfl, htk, _, hb2⟩
  have A2 := Lib.hid (A1.out.below hb2)
  have T2 := Lib.hid htk
  have H2 := Lib.hid (below_more HW.out hb2 (Nat.le_refl _))
  clear htk hb2 C2
  go_wp2_with fail
  go_loopw [5, 6, 22] (fun av rv cnt wl => ∃ i p k row : Nat, i ≤ ts.length ∧ cnt = .int .i64 i ∧ av = .int .i64 p ∧ rv = .int .i64 row ∧ row ≤ k ∧ k ≤ 2 ∧ Spell ys p (ts.drop i) ∧ Snug ys p k (ts.drop i) ∧ Below w2.heap.size w2 wl) (fun _ _ cnt _ => ts.length - (intOf cnt).toNat)
  case atStart => exact ⟨0, 0, 0, 0, Nat.zero_le _, rfl, rfl, rfl, Nat.le_refl _, by omega, by rw [List.drop_zero]; exact HS.out.1, by rw [List.drop_zero]; exact HS.out.2.1, Below.refl _ _⟩
  case round =>
    obtain ⟨i, p, k, row, hi, rfl, rfl, rfl, hrk, hk2, hsp, hsn, hb⟩ := hrel
    have hpl := spell_length _ _ hsp
    rw [HYL.out] at hpl
    by_cases hlt : i < ts.length
    · obtain ⟨b5, o5, t, rfl, hti, hfit, t0, t1, t2⟩ := (T2.out.below hb).at hlt
      rw [drop_cons hti] at hsp hsn
      rw [spell_cons] at hsp
      rw [snug_cons] at hsn
      have hba : Below w2.heap.size w2 (wr.alloc (.cells #[.int .i64 t.L, .int .i64 t.D, .int .u8 (t.X : Nat)] 27)) := hb.alloc hb.size _
      obtain ⟨hor, hsp⟩ := hsp
      have hwd := (spell_step hor).2.2.1
      rw [HYL.out] at hwd
      rcases hor with ⟨rfl, hpn⟩ | ⟨L, D, rfl, hf⟩
      · have hyy : (lit (ys.getD p 0)).X < 256 := hfit.2.2
        obtain ⟨y, hy⟩ : ∃ y, y = ys.getD p 0 := ⟨_, rfl⟩
        rw [← hy] at hsp hsn hba t0 t1 t2
        rw [wide_lit] at hsp
        simp only [lit] at t0 t1 t2
        have CT := Lib.hid (there_any (wr.alloc (.cells #[.int .i64 0, .int .i64 0, .int .u8 (y : Nat)] 27)) a n c ys p (A2.out.below hba) (by omega) (by omega))
        have HB := Lib.hid hba
        have hpin : (wr.alloc (.cells #[.int .i64 0, .int .i64 0, .int .u8 (y : Nat)] 27)).heap[wr.heap.size]? = some (.cells #[.int .i64 0, .int .i64 0, .int .u8 (y : Nat)] 27 (0, 0)) := heap_alloc_new _ _
        have HPIN := Lib.hid hpin
        have HSN := Lib.hid (And.intro hsp hsn)
        clear hsp hsn hb hba hpin hti hfit hy hyy
        go_wp2_with fail
        refine CT.out.mono ?_
        rintro e w5 ⟨b, rfl, hbt, hb5⟩
        have hp5 := (hb5.block _ (lt_of_block HPIN.out)).trans HPIN.out
        obtain ⟨x0, x1, x2⟩ := box_cells (L := 0) (D := 0) hp5
        have HB5 := Lib.hid (below_more HB.out hb5 (Nat.le_refl _))
        have HBT := Lib.hid hbt
        clear hbt hb5 hp5 CT
        cases b
        · have X := Lib.hid (show ∃ k', k' ≤ 2 ∧ Snug ys (p + 1) k' (ts.drop (i + 1)) from by
            rcases HSN.out.2 with ⟨h1, _⟩ | ⟨_, _, h3⟩ | ⟨_, h2, h3⟩
            · exact absurd rfl h1
            · exact ⟨0, by omega, h3⟩
            · exact ⟨k + 1, h2, h3⟩)
          go_wp2_with fail
          go_roundw
          case rel =>
            obtain ⟨k', x1, x2⟩ := X.out
            exact ⟨i + 1, p + 1, k', 0, hlt, by go_num, by go_num, rfl, Nat.zero_le _, x1, HSN.out.1, x2, HB5.out⟩
          case measure => simp [intOf]; omega
        · have X := Lib.hid (show k + 1 ≤ 2 ∧ Snug ys (p + 1) (k + 1) (ts.drop (i + 1)) from by
            rcases HSN.out.2 with ⟨h1, _⟩ | ⟨_, h2, _⟩ | ⟨_, h2, h3⟩
            · exact absurd rfl h1
            · exact absurd (HBT.out rfl) h2
            · exact ⟨h2, h3⟩)
          have hr3 : row + 1 ≤ 2 := by have := X.out.1; omega
          have u3 : decide ((3 : Int) ≤ (row : Int) + 1) = false := by simp; omega
          go_wp2_with fail
          go_roundw
          case rel => exact ⟨i + 1, p + 1, k + 1, row + 1, hlt, by go_num, by go_num, by go_num, by omega, X.out.1, HSN.out.1, X.out.2, HB5.out⟩
          case measure => simp [intOf]; omega
      · have h3 := hf.1
        have h4 := hf.2.1
        rw [wide_copy L D 0 h3] at hsp hsn hwd
        simp only at t0 t1 t2
        have X := Lib.hid (show Snug ys (p + L) 0 (ts.drop (i + 1)) from by
          rcases hsn with ⟨_, h⟩ | ⟨h, _⟩ | ⟨h, _⟩
          · exact h
          · simp only at h; omega
          · simp only at h; omega)
        have u3 : ((L : Int) == 0) = false := by simp; omega
        have hL1 : 1 < L := by omega
        have HB := Lib.hid hba
        have HSP := Lib.hid hsp
        clear hsp hsn hb hba hti hfit hf
        go_wp2_with fail
        go_roundw
        case rel => exact ⟨i + 1, p + L, 0, 0, hlt, by go_num, by go_num, rfl, Nat.le_refl _, by omega, HSP.out, X.out, HB.out⟩
        case measure => simp [intOf]; omega
    · obtain rfl : i = ts.length := by omega
      rw [List.drop_length] at hsp
      rw [spell_nil, HYL.out] at hsp
      subst hsp
      have X := Lib.hid (below_more H2.out hb (Nat.le_refl _))
      clear hb hsn
      go_wp2_with fail
      go_ret
      exact ⟨rfl, X.out⟩
theorem tight_law (w : World) (a : Option Addr) (n c : Nat) (ys : List Nat) (effort : Int) (h : Arg w a n c ys) (he : -9223372036854775808 ≤ effort ∧ effort ≤ 9223372036854775807) :
    Calls Try.prog 5 #[.slice a n c, .int .i64 effort] w (Yes w) := by
  by_cases hh : 600 < n ∨ effort < 1
  · exact tight_out w a n c effort hh
  · exact tight_good w a n c ys effort h (by omega) (by omega)
end Go.Proofs.Ytaandnikamnbbaa
