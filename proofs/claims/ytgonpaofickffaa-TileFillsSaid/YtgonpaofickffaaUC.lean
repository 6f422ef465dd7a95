/- TileFrees. -/
import Derived.Test.YtgonpaofickffaaUB
namespace Go.Proofs.Ytgonpaofickffaa
open Go.RowKit Go.Maps
set_option linter.unusedVariables false

theorem Fr.freeC {w wr : World} {A cap : Nat} {S : St} {v : Value} (h : Fr w A cap S v wr) : ∃ f : Nat, f ≤ cap ∧ Calls Try.prog 22 #[.pointer (some ⟨A, 0, none⟩)] wr fun e w' => e = .returned (.int .i64 (f : Int)) ∧ w' = wr :=
  ⟨S.free, h.free, h.A ▸ free_any wr S h.rep⟩
def Next (w : World) (A cap : Nat) (S : St) (v : Value) (w' : World) : Prop := ∃ S' : St, S'.ps.length = S.ps.length ∧ Fr w A cap S' v w'
theorem Next.of {w wr w' : World} {A cap k : Nat} {S : St} {v : Value} {p : Pl} {e : Ending} (h : Fr w A cap S v wr) (hk : S.ps[k]? = some p) (hd : Did wr S k p e w') : ∃ c, e = .returned (.int .i64 c) ∧ Next w A cap S v w' := by
  obtain ⟨c, S', p', rfl, hm, hr, hk2⟩ := hd
  exact ⟨c, rfl, S', by rw [hm.ps, List.length_set], h.step hk hm hr hk2⟩
theorem Fr.setC {w wr : World} {A cap k : Nat} {S : St} {v : Value} {p : Pl} (h : Fr w A cap S v wr) (hk : S.ps[k]? = some p) (x y z : Int) :
    Calls Try.prog 16 #[.pointer (some ⟨p.pb, 0, none⟩), .int .i64 x, .int .i64 y, .int .i64 z] wr fun e w' => ∃ c, e = .returned (.int .i64 c) ∧ Next w A cap S v w' :=
  (set_did wr S h.rep k p hk x y z).mono (fun _ _ hd => Next.of h hk hd)
theorem Fr.fillC {w wr : World} {A cap k : Nat} {S : St} {v : Value} {p : Pl} (h : Fr w A cap S v wr) (hk : S.ps[k]? = some p) (x y n m z : Int) (hx : I64 x) (hy : I64 y) :
    Calls Try.prog 17 #[.pointer (some ⟨p.pb, 0, none⟩), .int .i64 x, .int .i64 y, .int .i64 n, .int .i64 m, .int .i64 z] wr fun e w' => ∃ c, e = .returned (.int .i64 c) ∧ Next w A cap S v w' :=
  (fill_did wr S h.rep k p hk x y n m z hx hy).mono (fun _ _ hd => Next.of h hk hd)
theorem Fr.dropC {w wr : World} {A cap k : Nat} {S : St} {v : Value} {p : Pl} (h : Fr w A cap S v wr) (hk : S.ps[k]? = some p) :
    Calls Try.prog 21 #[.pointer (some ⟨p.pb, 0, none⟩)] wr fun e w' => e = .returned (.tuple #[]) ∧ Fr w A cap (S.drop k p) v w' :=
  (drop_any wr S h.rep k p hk).mono (fun _ _ ⟨h1, h2, h3⟩ => ⟨h1, h.drop hk h2 h3⟩)
theorem drop_length (S : St) (k : Nat) (p : Pl) : (S.drop k p).ps.length = S.ps.length := List.length_set
/-- A snapshot has been made; the row does not hold it yet. -/
structure Sn (w : World) (A cap : Nat) (S : St) (q : Pl) (v : Value) (wr : World) : Prop where
  rep : Rep wr (S.more q)
  A : S.A = A
  cap : S.cap = cap
  low : Low (S.more q) w.heap.size
  keeps : Keeps none' w wr
  row : Row wr w.heap.size v S.ps
theorem Sn.later {w wr w' : World} {A cap : Nat} {S : St} {q : Pl} {v : Value} (h : Sn w A cap S q v wr) (k : Keeps none' wr w') : Sn w A cap S q v w' := ⟨h.rep.later k, h.A, h.cap, h.low, h.keeps.trans k (fun _ _ h => h), h.row.later k⟩
theorem Fr.snapC {w wr : World} {A cap k : Nat} {S : St} {v : Value} {p : Pl} (h : Fr w A cap S v wr) (hk : S.ps[k]? = some p) (hm : S.ps.length < 1048576) :
    Calls Try.prog 18 #[.pointer (some ⟨p.pb, 0, none⟩)] wr fun e w' => ∃ q : Pl, e = .returned (.pointer (some ⟨q.pb, 0, none⟩)) ∧ Sn w A cap S q v w' := by
  refine (snap_any wr S h.rep k p hk hm).mono ?_
  rintro e w' ⟨q, rfl, hr, hK, -, -, -, -, h1, h2⟩
  have := h.keeps.size
  exact ⟨q, rfl, hr, h.A, h.cap, h.low.more (by omega) (by omega), h.keeps.over hK (fun b hb => h.low.live b hb), h.row.keep h.rep hK (fun b hb => .inr (.inr hb))⟩
theorem Sn.done {w wr w' : World} {A cap : Nat} {S : St} {q : Pl} {v v' : Value} (h : Sn w A cap S q v wr) (hr : Row w' w.heap.size v' (S.ps ++ [q])) (hg : wr.grownBy w' v.ownBlock) : Fr w A cap (S.more q) v' w' := by
  have hk : Keeps (fun b => v.ownBlock = some b) wr w' := (Keeps.refl _ _).grown hg (fun k _ e => e)
  refine ⟨h.rep.kept hk (fun b hb e => ?_), h.A, h.cap, h.low, h.keeps.over hk (fun b e => (h.row.block b e).1), hr⟩
  obtain ⟨-, -, c, f, hc⟩ := h.row.block b e
  exact h.rep.not_foot26 hc hb
theorem Fr.wiped {w wr : World} {A cap k : Nat} {S : St} {v : Value} {p : Pl} (hk : S.ps[k]? = some p) (h : Fr w A cap (S.drop k p) v wr) :
    Calls Try.prog 23 #[.pointer (some ⟨p.pb, 0, none⟩)] wr (fun e w' => e = .returned (.int .i64 0) ∧ w' = wr) ∧
    Calls Try.prog 14 #[.pointer (some ⟨p.pb, 0, none⟩), .int .i64 3, .int .i64 3] wr (fun e w' => e = .returned (.int .i64 0) ∧ Keeps none' wr w') := by
  have hk' : (S.drop k p).ps[k]? = some { p with T := fun _ _ => none, L := [] } := List.getElem?_set_self (List.getElem?_eq_some_iff.1 hk).1
  exact ⟨tilesN_any wr _ h.rep k _ hk', at_bare wr _ h.rep k _ hk' (fun _ _ => rfl) 3 3⟩

theorem frees_long (a0 : Option Addr) (n0 c0 : Nat) (N : Int) (w : World) (h : 40 < n0 ∨ N < 0 ∨ 200 < N) : Calls Try.prog 5 #[.slice a0 n0 c0, .int .i64 N] w (Yes w) := by
  have A := Lib.hid (anchor_any w)
  by_cases h0 : 40 < n0
  · have t : decide ((40 : Int) < n0) = true := by simp; omega
    clear h
    go_enter Try.func5, Try.ntmps5
    go_wp2_with fail
    refine A.out.mono ?_
    rintro e w1 ⟨rfl, hk⟩
    have HK := Lib.hid hk
    clear hk
    go_wp2_with fail
    go_ret
    exact ⟨rfl, HK.out⟩
  · have t : decide ((40 : Int) < n0) = false := by simp; omega
    by_cases h1 : N < 0
    · have t2 : decide (N < 0) = true := by simp; omega
      clear h h1
      go_enter Try.func5, Try.ntmps5
      go_wp2_with fail
      refine A.out.mono ?_
      rintro e w1 ⟨rfl, hk⟩
      have HK := Lib.hid hk
      clear hk
      go_wp2_with fail
      go_ret
      exact ⟨rfl, HK.out⟩
    · have t2 : decide (N < 0) = false := by simp; omega
      have t3 : decide (200 < N) = true := by simp; omega
      clear h h1
      go_enter Try.func5, Try.ntmps5
      go_wp2_with fail
      refine A.out.mono ?_
      rintro e w1 ⟨rfl, hk⟩
      have HK := Lib.hid hk
      clear hk
      go_wp2_with fail
      go_ret
      exact ⟨rfl, HK.out⟩
end Go.Proofs.Ytgonpaofickffaa
