/- A list of points written (putList of points). -/
import Derived.Test.YtcdhpidglchinaaC
namespace Go.Proofs.Ytcdhpidglchinaa
open Go.RowKit Go.Lib Pk
set_option linter.unusedSimpArgs false
set_option linter.unusedVariables false

/-- Points as cells. -/
def pts (l : List (Int × Int)) : List Value := l.flatMap (fun p => [.int .i64 p.1, .int .i64 p.2])
theorem pts_length (l : List (Int × Int)) : (pts l).length = l.length * 2 := by
  induction l with
  | nil => rfl
  | cons a l ih =>
    have e : pts (a :: l) = [.int .i64 a.1, .int .i64 a.2] ++ pts l := rfl
    rw [e, List.length_append, ih]
    simp
    omega
theorem pts_append (l m : List (Int × Int)) : pts (l ++ m) = pts l ++ pts m := by simp [pts]
theorem pts_one (l : List (Int × Int)) : ∀ u ∈ pts l, u.oneCell' = true := by
  intro u hu
  obtain ⟨a, _, ha⟩ := List.mem_flatMap.1 hu
  simp at ha
  rcases ha with rfl | rfl <;> rfl
theorem pts_at {l : List (Int × Int)} {k : Nat} {p : Int × Int} (h : l[k]? = some p) : (pts l)[k * 2]? = some (.int .i64 p.1) ∧ (pts l)[k * 2 + 1]? = some (.int .i64 p.2) := by
  induction l generalizing k with
  | nil => simp at h
  | cons a l ih =>
    have e : pts (a :: l) = .int .i64 a.1 :: .int .i64 a.2 :: pts l := rfl
    cases k with
    | zero =>
      simp at h
      subst h
      rw [e]
      exact ⟨rfl, rfl⟩
    | succ k =>
      simp only [List.getElem?_cons_succ] at h
      obtain ⟨h1, h2⟩ := ih h
      rw [e, show (k + 1) * 2 = k * 2 + 1 + 1 by omega]
      simp only [List.getElem?_cons_succ]
      exact ⟨h1, h2⟩
theorem Cells.two {w : World} {h : Hd} {l : List (Int × Int)} (c : Cells 2 w h (pts l)) {k : Nat} {p : Int × Int} (hk : l[k]? = some p) : ∃ b off, h.a = some ⟨b, off, none⟩ ∧ b < w.heap.size ∧ w.cell? ⟨b, off + k * 2, none⟩ = some (.int .i64 p.1) ∧ w.cell? ⟨b, off + k * 2 + 1, none⟩ = some (.int .i64 p.2) := by
  obtain ⟨h1, h2⟩ := pts_at hk
  obtain ⟨b, off, e, hb, c1⟩ := c.at h1
  obtain ⟨b', off', e', hb', c2⟩ := c.at h2
  rw [e] at e'
  cases e'
  exact ⟨b, off, e, hb, c1, c2⟩
theorem take_flatP {l : List (Int × Int)} {k : Nat} {x : Int × Int} (h : l[k]? = some x) : (l.take (k + 1)).flatMap putPt = (l.take k).flatMap putPt ++ putPt x := by
  rw [List.take_add_one, h, List.flatMap_append]
  simp
theorem putPt_short {p : Int × Int} (h : Fit p.1 ∧ Fit p.2) : (putPt p).length ≤ 20 := by
  have h1 := put_short h.1
  have h2 := put_short h.2
  unfold putPt
  rw [List.length_append]
  omega
theorem flatP_short {l : List (Int × Int)} (hf : ∀ a ∈ l, Fit a.1 ∧ Fit a.2) : (l.flatMap putPt).length ≤ 20 * l.length := by
  induction l with
  | nil => simp
  | cons a l ih =>
    have h1 := ih (fun x hx => hf x (List.mem_cons_of_mem _ hx))
    have h2 := putPt_short (hf a List.mem_cons_self)
    simp only [List.flatMap_cons, List.length_append, List.length_cons]
    omega
theorem flatP_take_short {l : List (Int × Int)} (hf : ∀ a ∈ l, Fit a.1 ∧ Fit a.2) (k : Nat) (hk : k ≤ l.length) : ((l.take k).flatMap putPt).length ≤ 20 * k := by
  have := flatP_short (l := l.take k) (fun a ha => hf a (List.mem_of_mem_take ha))
  rw [List.length_take] at this
  omega
set_option maxHeartbeats 400000 in
theorem putPts_any (w : World) (B P : Nat) (D : Option Nat) (zs : List Nat) (g : Hd) (l : List (Int × Int)) (h : Wt w B P D zs) (hB : B ≤ w.heap.size) (o : Off 2 P D w g (pts l)) (hf : ∀ a ∈ l, Fit a.1 ∧ Fit a.2) (hl : zs.length + 20 * l.length ≤ 32990000) :
    Calls Try.prog 29 #[.pointer (some ⟨P, 0, none⟩), .slice g.a g.n g.c, .func (.func 30) #[.pointer (some ⟨P, 0, none⟩)] #[]] w fun e w' => e = .returned (.tuple #[]) ∧ Then w B P D (zs ++ putL putPt l) w' := by
  have hn : l.length = g.n := by have := o.cells.len; rw [pts_length] at this; omega
  have hn2 : g.n ≤ 33000000 := by omega
  have fl : Fit (g.n : Int) := ⟨by omega, by omega⟩
  have ps := put_short fl
  have C1 := Lib.hid (wnum_any w B P D zs (g.n : Int) h hB fl (by omega))
  have HO := Lib.hid o
  have HF := Lib.hid hf
  obtain ⟨ZS, hZS⟩ : ∃ ZS, ZS = zs ++ put (g.n : Int) := ⟨_, rfl⟩
  have hZL : ZS.length + 20 * l.length ≤ 32990010 := by rw [hZS, List.length_append]; omega
  have HZ := Lib.hid hZS
  rw [← hZS] at C1
  have HN := Lib.hid (And.intro hn (And.intro hZL hB))
  clear hn h hB o hf hl fl ps hZS hZL
  obtain ⟨a, n, c⟩ := g
  simp only at hn2 C1 HN HZ
  simp only
  go_enter Try.func29, Try.ntmps29
  go_wp2_with (go_at_call 37; ((with_reducible refine C1.out.mono ?_); rintro e w1 ⟨rfl, hw1⟩; have HY := Lib.hid hw1; clear hw1))
  go_loopw [14] (fun v wr => ∃ k : Nat, k ≤ n ∧ v = .int .i64 k ∧ Then w B P D (ZS ++ (l.take k).flatMap putPt) wr) (fun v _ => n - (intOf v).toNat)
  case atStart => exact ⟨0, Nat.zero_le _, rfl, by simpa using HY.out⟩
  case round =>
    obtain ⟨k, hk, rfl, ht⟩ := hrel
    have HR := Lib.hid ht
    clear ht
    by_cases hlt : k < n
    · have hkl : k < l.length := by have := HN.out.1; omega
      obtain ⟨p, hx⟩ : ∃ x, l[k]? = some x := ⟨_, List.getElem?_eq_getElem hkl⟩
      obtain ⟨b, off, e, hb, hc, hc2⟩ := (HO.out.then HR.out).two hx
      simp only at e
      subst e
      have fx : Fit p.1 ∧ Fit p.2 := HF.out _ (at_mem hx)
      have HX := Lib.hid (And.intro hx fx)
      obtain ⟨x, y⟩ := p
      simp only at hc hc2
      clear hx fx hkl hb
      obtain ⟨D1, hw1, -, -⟩ := HR.out
      have K0 := Lib.hid ((Keeps.refl none' wr).alloc (.cells #[.int .i64 x, .int .i64 y] 60))
      have HW := Lib.hid hw1
      have hs : B ≤ wr.heap.size := Nat.le_trans HN.out.2.2 HR.out.size
      have h3 : (ZS ++ (l.take k).flatMap putPt).length ≤ 32999000 := by
        have h1 := flatP_take_short HF.out k (by have := HN.out.1; omega)
        have h2 := HN.out.2.1
        have h4 := HN.out.1
        rw [List.length_append]
        omega
      have HS := Lib.hid (And.intro hs h3)
      clear hw1 hs h3
      go_wp2_with (go_at_call 30; ((with_reducible refine (wpoint_any _ B P D1 _ _ _ (HW.out.keep K0.out) (Nat.le_trans HS.out.1 K0.out.size) HX.out.2 HS.out.2).mono ?_); rintro e w2 ⟨rfl, hw1⟩; have HY := Lib.hid hw1; clear hw1))
      go_roundw
      case rel =>
        refine ⟨k + 1, by omega, by go_num, ?_⟩
        rw [take_flatP HX.out.1, ← List.append_assoc]
        exact HR.out.trans (fun D2 h2 => by
          obtain rfl := h2.one HW.out
          exact Then.from K0.out HY.out)
      case measure => simp [intOf]; omega
    · go_wp2_with fail
      go_end0
      have e : k = l.length := by have := HN.out.1; omega
      have := HR.out
      rw [e, List.take_length, HZ.out, ← HN.out.1, List.append_assoc] at this
      exact ⟨rfl, this⟩
end Go.Proofs.Ytcdhpidglchinaa
