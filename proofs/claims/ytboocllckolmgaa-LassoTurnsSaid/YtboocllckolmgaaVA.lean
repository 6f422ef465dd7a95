/- The document's Area and Times. -/
import Derived.Test.YtboocllckolmgaaV
namespace Go.Proofs.Ytboocllckolmgaa
open Go.RowKit
set_option linter.unusedVariables false

/-- Twice the area, in the document's words. -/
def docAreaZ (ps : List Pt) : Int := areaL (nextL ps)
theorem nextL_near {ps : List Pt} (h : ps.all near = true) {s : Pt × Pt} (hs : s ∈ nextL ps) : near s.1 = true ∧ near s.2 = true := by
  cases ps with
  | nil => cases hs
  | cons p ps =>
    have k := chainL_mem hs
    have hall : ∀ r ∈ ps ++ [p], near r = true := by
      intro r hr
      rw [List.mem_append, List.mem_singleton] at hr
      rcases hr with hr | rfl
      · exact List.all_eq_true.1 h r (List.mem_cons_of_mem _ hr)
      · exact List.all_eq_true.1 h _ List.mem_cons_self
    refine ⟨?_, hall _ k.2⟩
    rcases k.1 with e | e
    · rw [e]; exact List.all_eq_true.1 h _ List.mem_cons_self
    · exact hall _ e
/-- A number, and the old memory as it was. -/
def SaysI (n : Int) (w : World) (e : Ending) (w' : World) : Prop := e = .returned (.int .i64 n) ∧ Below w.heap.size w w'

set_option maxHeartbeats 3200000 in
theorem docArea_any (w : World) (a : Option Addr) (n c : Nat) (ps : List Pt) (h : Pts w a n ps) (hn : n ≤ 256) (hal : ps.all near = true) :
    Calls Try.prog 21 #[.slice a n c] w (SaysI (docAreaZ ps) w) := by
  have HP := Lib.hid h
  have HA := Lib.hid hal
  clear h hal
  go_enter Try.func21, Try.ntmps21
  go_wp2_with fail
  go_loopw [3, 4] (fun v cnt wr => ∃ (i : Nat) (S : Int), i ≤ n ∧ cnt = .int .i64 i ∧ v = .int .i64 S ∧ S = areaL ((nextL ps).take i) ∧ Below w.heap.size w wr) (fun _ cnt _ => n - (intOf cnt).toNat)
  case atStart => exact ⟨0, 0, Nat.zero_le _, rfl, rfl, rfl, Below.refl _ _⟩
  case round =>
    obtain ⟨i, S, hi, rfl, rfl, hS, hb⟩ := hrel
    by_cases hlt : i < n
    · have hpw := HP.out.below hb
      obtain ⟨k, hk, hkn⟩ : ∃ k, ((i + 1 < n ∧ k = i + 1) ∨ (i + 1 = n ∧ k = 0)) ∧ k < n := by
        by_cases hh : i + 1 < n
        · exact ⟨i + 1, .inl ⟨hh, rfl⟩, hh⟩
        · exact ⟨0, .inr ⟨by omega, rfl⟩, by omega⟩
      obtain ⟨bl, off, p, rfl, hp, hfp, c0, c1⟩ := hpw.at hlt
      obtain ⟨bl2, off2, p2, he, hp2, hfp2, d0, d1⟩ := hpw.at hkn
      cases he
      have hs := nextL_at hp hp2 (by rw [HP.out.1]; exact hk)
      have hm := areaL_more hs
      rw [← hS] at hm
      have np := near_iff.1 (List.all_eq_true.1 HA.out p (List.mem_of_getElem? hp))
      have np2 := near_iff.1 (List.all_eq_true.1 HA.out p2 (List.mem_of_getElem? hp2))
      have k2 := areaL_small (ss := (nextL ps).take i) (fun s hs => nextL_near HA.out (List.mem_of_mem_take hs))
      rw [List.length_take, ← hS] at k2
      have k3 : min i (nextL ps).length * 2 ^ 41 ≤ 256 * 2 ^ 41 := Nat.mul_le_mul_right _ (by omega)
      have b1 := mul_coord (a := p.X) (b := p2.Y) (by omega) (by omega)
      have b2 := mul_coord (a := p2.X) (b := p.Y) (by omega) (by omega)
      have hcr : cr (p, p2) = p.X * p2.Y - p2.X * p.Y := by unfold cr; simp only; rw [Int.mul_comm p.Y]
      obtain ⟨m1, hm1⟩ : ∃ z, z = p.X * p2.Y := ⟨_, rfl⟩
      obtain ⟨m2, hm2⟩ : ∃ z, z = p2.X * p.Y := ⟨_, rfl⟩
      rw [hcr] at hm
      rw [← hm1] at b1 hm
      rw [← hm2] at b2 hm
      obtain ⟨S2, hS2⟩ : ∃ z, z = S + (m1 - m2) := ⟨_, rfl⟩
      have j1 : wrap64 (p.X * p2.Y) = m1 := by rw [← hm1]; exact w64 m1 (by omega) (by omega)
      have j2 : wrap64 (p2.X * p.Y) = m2 := by rw [← hm2]; exact w64 m2 (by omega) (by omega)
      have j3 : wrap64 (m1 - m2) = m1 - m2 := w64 _ (by omega) (by omega)
      have j4 : wrap64 (S + (m1 - m2)) = S2 := by rw [hS2]; exact w64 _ (by omega) (by omega)
      have j5 : IntKind.i64.wrap (p.X * p2.Y) = m1 := by rw [← hm1]; exact wrap_i64 m1 (by omega) (by omega)
      have j6 : IntKind.i64.wrap (p2.X * p.Y) = m2 := by rw [← hm2]; exact wrap_i64 m2 (by omega) (by omega)
      have j7 : IntKind.i64.wrap (m1 - m2) = m1 - m2 := wrap_i64 _ (by omega) (by omega)
      have j8 : IntKind.i64.wrap (S + (m1 - m2)) = S2 := by rw [hS2]; exact wrap_i64 _ (by omega) (by omega)
      have HS := Lib.hid (show S2 = areaL ((nextL ps).take (i + 1)) by rw [hS2, hm])
      have HB := Lib.hid hb
      have u3 : (k : Int) < (n : Int) := by omega
      have u4 : (0 : Int) ≤ (k : Int) := by omega
      have u5 : (i : Int) < (n : Int) := by omega
      have u6 : (0 : Int) ≤ (i : Int) := by omega
      have i1 : IntKind.i64.wrap ((i : Int) + 1) = ((i + 1 : Nat) : Int) := by rw [wrap_i64 _ (by omega) (by omega)]; omega
      have i2 : ((i : Int) + 1).tmod (n : Int) = (k : Int) := by
        show (((i + 1 : Nat) : Int)).tmod (n : Int) = (k : Int)
        rw [show (((i + 1 : Nat) : Int)).tmod (n : Int) = (((i + 1) % n : Nat) : Int) from rfl]
        rcases hk with ⟨q1, q2⟩ | ⟨q1, q2⟩
        · rw [Nat.mod_eq_of_lt q1, q2]
        · rw [q1, Nat.mod_self, q2]
      have u7 : ((n : Int) == 0) = false := by simp; omega
      have u8 : ¬ (n : Int) = 0 := by omega
      clear hs hm hS hS2 hm1 hm2 hcr b1 b2 k2 k3 np np2 hfp hfp2 hp hp2 hpw hb hk i1
      go_wp2_with fail
      go_quiet (fail)
      clear j1 j2 j3 j4 j5 j6 j7 j8 c0 c1 d0 d1 i2
      go_wp2_with fail
      go_roundw
      case rel => exact ⟨i + 1, S2, hlt, by go_num, rfl, HS.out, below_drewN HB.out _⟩
      case measure => simp [intOf]; omega
    · obtain rfl : i = n := by omega
      rw [List.take_of_length_le (by rw [nextL_length, HP.out.1]; exact Nat.le_refl _)] at hS
      have X := Lib.hid hb
      have E := Lib.hid (show docAreaZ ps = S from hS.symm)
      clear hb hS
      go_wp2_with fail
      go_ret
      rw [E.out]
      exact ⟨rfl, X.out⟩

/-- The document's product of two points, plus a third. -/
def timesZ (p q r : Pt) : Pt := ⟨p.X * q.X - p.Y * q.Y + r.X, p.X * q.Y + p.Y * q.X + r.Y⟩
theorem times_fits {p q r : Pt} (hp : near p = true) (hq : near q = true) (hr : near r = true) : (timesZ p q r).X.natAbs ≤ 2 ^ 42 ∧ (timesZ p q r).Y.natAbs ≤ 2 ^ 42 := by
  have hp := near_iff.1 hp
  have hq := near_iff.1 hq
  have hr := near_iff.1 hr
  have b1 := mul_coord (a := p.X) (b := q.X) (by omega) (by omega)
  have b2 := mul_coord (a := p.Y) (b := q.Y) (by omega) (by omega)
  have b3 := mul_coord (a := p.X) (b := q.Y) (by omega) (by omega)
  have b4 := mul_coord (a := p.Y) (b := q.X) (by omega) (by omega)
  have e : (2 : Nat) ^ 42 = 4 * 2 ^ 40 := by decide
  unfold timesZ
  simp only
  omega
set_option maxHeartbeats 1600000 in
theorem docTimes_any (w : World) (p q r : Pt) (hp : near p = true) (hq : near q = true) (hr : near r = true) :
    Calls Try.prog 19 #[.agg #[.int .i64 p.X, .int .i64 p.Y], .agg #[.int .i64 q.X, .int .i64 q.Y], .agg #[.int .i64 r.X, .int .i64 r.Y]] w (fun e w' => e = .returned (.agg #[.int .i64 (timesZ p q r).X, .int .i64 (timesZ p q r).Y]) ∧ Below w.heap.size w w') := by
  have hp := near_iff.1 hp
  have hq := near_iff.1 hq
  have hr := near_iff.1 hr
  have b1 := mul_coord (a := p.X) (b := q.X) (by omega) (by omega)
  have b2 := mul_coord (a := p.Y) (b := q.Y) (by omega) (by omega)
  have b3 := mul_coord (a := p.X) (b := q.Y) (by omega) (by omega)
  have b4 := mul_coord (a := p.Y) (b := q.X) (by omega) (by omega)
  unfold timesZ
  simp only
  obtain ⟨m1, hm1⟩ : ∃ z, z = p.X * q.X := ⟨_, rfl⟩
  obtain ⟨m2, hm2⟩ : ∃ z, z = p.Y * q.Y := ⟨_, rfl⟩
  obtain ⟨m3, hm3⟩ : ∃ z, z = p.X * q.Y := ⟨_, rfl⟩
  obtain ⟨m4, hm4⟩ : ∃ z, z = p.Y * q.X := ⟨_, rfl⟩
  rw [← hm1, ← hm2, ← hm3, ← hm4]
  rw [← hm1] at b1
  rw [← hm2] at b2
  rw [← hm3] at b3
  rw [← hm4] at b4
  have j1 : wrap64 (p.X * q.X) = m1 := by rw [← hm1]; exact w64 m1 (by omega) (by omega)
  have j2 : wrap64 (p.Y * q.Y) = m2 := by rw [← hm2]; exact w64 m2 (by omega) (by omega)
  have j3 : wrap64 (p.X * q.Y) = m3 := by rw [← hm3]; exact w64 m3 (by omega) (by omega)
  have j4 : wrap64 (p.Y * q.X) = m4 := by rw [← hm4]; exact w64 m4 (by omega) (by omega)
  have b1' : -1099511627776 ≤ m1 ∧ m1 ≤ 1099511627776 := by omega
  have b2' : -1099511627776 ≤ m2 ∧ m2 ≤ 1099511627776 := by omega
  have b3' : -1099511627776 ≤ m3 ∧ m3 ≤ 1099511627776 := by omega
  have b4' : -1099511627776 ≤ m4 ∧ m4 ≤ 1099511627776 := by omega
  have HB := Lib.hid (show Below w.heap.size w ((((w.alloc (.cells #[.int .i64 p.X, .int .i64 p.Y] 31)).alloc (.cells #[.int .i64 q.X, .int .i64 q.Y] 31)).alloc (.cells #[.int .i64 r.X, .int .i64 r.Y] 31)).alloc (.cells #[.int .i64 (m1 - m2 + r.X), .int .i64 (m3 + m4 + r.Y)] 31)) from ((((Below.refl _ _).alloc (Nat.le_refl _) _).alloc (by simp) _).alloc (by simp; omega) _).alloc (by simp; omega) _)
  clear hm1 hm2 hm3 hm4 b1 b2 b3 b4
  go_enter Try.func19, Try.ntmps19
  go_wp2_with fail
  refine bodyPost_ret (results_cell_row rfl _ _ (w.heap.size + 3) 31 #[.int .i64 (m1 - m2 + r.X), .int .i64 (m3 + m4 + r.Y)] (0, 0) _ rfl ?hg Try.underlying31 rfl (by kernel_rfl)) rfl ?_
  case hg =>
    have k := heap_alloc_new (((w.alloc (.cells #[.int .i64 p.X, .int .i64 p.Y] 31)).alloc (.cells #[.int .i64 q.X, .int .i64 q.Y] 31)).alloc (.cells #[.int .i64 r.X, .int .i64 r.Y] 31)) (.cells #[.int .i64 (m1 - m2 + r.X), .int .i64 (m3 + m4 + r.Y)] 31)
    simpa using k
  exact ⟨rfl, HB.out⟩
end Go.Proofs.Ytboocllckolmgaa
