/- TileApart. -/
import Derived.Test.YtkafccdbofoepaaTY
namespace Go.Proofs.Ytkafccdbofoepaa
open Go.RowKit Go.Maps
set_option linter.unusedVariables false

theorem Keeps.cell' {w w' : World} (h : Keeps none' w w') {a : Addr} {v : Value} (hc : w.cell? a = some v) : w'.cell? a = some v :=
  (World.cell?_of_block (w := w) (h.later _ (World.block_lt_of_cell? w _ hc))).trans hc
theorem pixTo_congr {S S' : St} {p p' : Pl} (n : Nat) (h : ∀ x y, px S p x y = px S' p' x y) : pixTo S p n = pixTo S' p' n := by
  unfold pixTo
  simp only [h]
/-- A row of numbers lies apart from a state. -/
def Away (S : St) (aa : Option Addr) (w : World) : Prop := ∀ b off, aa = some ⟨b, off, none⟩ → ¬ Foot S b ∧ b < w.heap.size
theorem Away.new {w w' : World} {S : St} {aa : Option Addr} {zs : List Int} (h : Rep w S) (hb : ∀ b off, aa = some ⟨b, off, none⟩ → w.heap.size ≤ b) (hi : Ints w' aa 1600 zs) : Away S aa w' := by
  intro b off e
  refine ⟨fun hf => by have := h.lt hf; have := hb b off e; omega, ?_⟩
  obtain ⟨b', off', z, e', -, -, hc⟩ := hi.at (i := 0) (by omega)
  rw [e] at e'
  cases e'
  exact World.block_lt_of_cell? w' _ hc
theorem Away.mod {w w' : World} {S S' : St} {k : Nat} {p p' : Pl} {aa : Option Addr} (h : Away S aa w) (hm : Mod w.heap.size S S' k p p') (hs : w.heap.size ≤ w'.heap.size) : Away S' aa w' := by
  intro b off e
  obtain ⟨h1, h2⟩ := h b off e
  refine ⟨fun hf => ?_, by omega⟩
  rcases hm.foot b hf with h3 | h3
  · exact h1 h3
  · omega
theorem Away.later {w w' : World} {S : St} {aa : Option Addr} (h : Away S aa w) (hs : w.heap.size ≤ w'.heap.size) : Away S aa w' := fun b off e => ⟨(h b off e).1, by have := (h b off e).2; omega⟩
theorem Away.ints {w w' : World} {S : St} {aa : Option Addr} {n : Nat} {zs : List Int} (h : Away S aa w) (hi : Ints w aa n zs) (hk : Keeps (Foot S) w w') : Ints w' aa n zs := hi.keep hk (fun b off e => (h b off e).1)
/-- One plane of forty by forty. -/
structure One (w : World) (pb : Nat) (S : St) (p : Pl) (wr : World) : Prop where
  rep : Rep wr S
  ps : S.ps = [p]
  pb : p.pb = pb
  W : p.W = 40
  H : p.H = 40
  low : Low S w.heap.size
  keeps : Keeps none' w wr
theorem One.later {w wr w' : World} {pb : Nat} {S : St} {p : Pl} (h : One w pb S p wr) (k : Keeps none' wr w') : One w pb S p w' := ⟨h.rep.later k, h.ps, h.pb, h.W, h.H, h.low, h.keeps.trans k (fun _ _ h => h)⟩
theorem One.step {w wr w' : World} {pb : Nat} {S S' : St} {p p' : Pl} (h : One w pb S p wr) (hm : Mod wr.heap.size S S' 0 p p') (hr : Rep w' S') (hk : Keeps (Foot S) wr w') : One w pb S' p' w' :=
  ⟨hr, by rw [hm.ps, h.ps]; rfl, hm.pb.trans h.pb, hm.W.trans h.W, hm.H.trans h.H, hm.low h.low h.keeps.size, h.keeps.over hk (fun b hb => h.low b hb)⟩
/-- Two planes; the second as it was. -/
structure Two (w : World) (pb : Nat) (f : Nat → Nat → Nat) (q : Pl) (aa : Option Addr) (zs : List Int) (S : St) (p : Pl) (wr : World) : Prop where
  rep : Rep wr S
  ps : S.ps = [p, q]
  pb : p.pb = pb
  W : p.W = 40
  H : p.H = 40
  low : Low S w.heap.size
  keeps : Keeps none' w wr
  same : ∀ x y, px S q x y = f x y
  away : Away S aa wr
  ints : Ints wr aa 1600 zs
theorem Two.later {w wr w' : World} {pb : Nat} {f : Nat → Nat → Nat} {q : Pl} {aa : Option Addr} {zs : List Int} {S : St} {p : Pl} (h : Two w pb f q aa zs S p wr) (k : Keeps none' wr w') : Two w pb f q aa zs S p w' :=
  ⟨h.rep.later k, h.ps, h.pb, h.W, h.H, h.low, h.keeps.trans k (fun _ _ h => h), h.same, h.away.later k.size, h.ints.later k⟩
theorem Two.step {w wr w' : World} {pb : Nat} {f : Nat → Nat → Nat} {q : Pl} {aa : Option Addr} {zs : List Int} {S S' : St} {p p' : Pl} (h : Two w pb f q aa zs S p wr) (hm : Mod wr.heap.size S S' 0 p p') (hr : Rep w' S') (hk : Keeps (Foot S) wr w') : Two w pb f q aa zs S' p' w' :=
  ⟨hr, by rw [hm.ps, h.ps]; rfl, hm.pb.trans h.pb, hm.W.trans h.W, hm.H.trans h.H, hm.low h.low h.keeps.size, h.keeps.over hk (fun b hb => h.low b hb), fun x y => (hm.px (m := 1) (by omega) (by rw [h.ps]; rfl) x y).trans (h.same x y), h.away.mod hm hk.size, h.away.ints h.ints hk⟩

theorem apart_long (a0 : Option Addr) (n0 c0 : Nat) (a1 : Option Addr) (n1 c1 : Nat) (w : World) (h : 20 < n0 ∨ 20 < n1) : Calls Try.prog 4 #[.slice a0 n0 c0, .slice a1 n1 c1] w (Yes w) := by
  have A := Lib.hid (anchor_any w)
  by_cases h0 : 20 < n0
  · have t : decide ((20 : Int) < n0) = true := by simp; omega
    clear h
    go_enter Try.func4, Try.ntmps4
    go_wp2_with fail
    refine A.out.mono ?_
    rintro e w1 ⟨rfl, hk⟩
    have HK := Lib.hid hk
    clear hk
    go_wp2_with fail
    go_ret
    exact ⟨rfl, HK.out⟩
  · have t : decide ((20 : Int) < n0) = false := by simp; omega
    have t2 : decide ((20 : Int) < n1) = true := by simp; omega
    clear h
    go_enter Try.func4, Try.ntmps4
    go_wp2_with fail
    refine A.out.mono ?_
    rintro e w1 ⟨rfl, hk⟩
    have HK := Lib.hid hk
    clear hk
    go_wp2_with fail
    go_ret
    exact ⟨rfl, HK.out⟩
set_option maxRecDepth 100000 in
set_option maxHeartbeats 6400000 in
theorem apart_good (a0 : Option Addr) (n0 c0 : Nat) (xs : List Op) (a1 : Option Addr) (n1 c1 : Nat) (ys : List Op) (w : World) (h0 : n0 ≤ 20) (h1 : n1 ≤ 20) (hx : Ops w a0 n0 xs) (hy : Ops w a1 n1 ys) : Calls Try.prog 4 #[.slice a0 n0 c0, .slice a1 n1 c1] w (Yes w) := by
  have A := Lib.hid (anchor_any w)
  have t : decide ((20 : Int) < n0) = false := by simp; omega
  have t2 : decide ((20 : Int) < n1) = false := by simp; omega
  have X0 := Lib.hid hx
  have Y0 := Lib.hid hy
  clear hx hy
  go_enter Try.func4, Try.ntmps4
  go_wp2_with fail
  refine A.out.mono ?_
  rintro e w1 ⟨rfl, hk⟩
  have K1 := Lib.hid hk
  have C1 := Lib.hid (new_yes 100 w1 (by omega))
  clear hk A
  go_wp2_with fail
  refine C1.out.mono ?_
  rintro e w2 ⟨rfl, hR, hK, -⟩
  have L1 := Lib.hid (low_new w1.heap.size 100 w.heap.size K1.out.size)
  have K2 := Lib.hid (K1.out.trans hK (fun _ _ h => h))
  have C2 := Lib.hid (plane_yes w2 _ hR 40 40 (by omega) (by omega) (by simp [St.new]))
  clear hR hK C1 K1
  generalize w1.heap.size = A at *
  go_wp2_with fail
  refine C2.out.mono ?_
  rintro e w3 ⟨p, rfl, hR, hK, hW, hH, -, -, hpb, hmb⟩
  have O1 := Lib.hid (show One w p.pb ((St.new A 100).more p) p w3 from ⟨hR, rfl, rfl, hW, hH, L1.out.more (by have := K2.out.size; omega) (by have := K2.out.size; omega), K2.out.trans hK (fun _ _ h => h)⟩)
  clear hR hK hW hH hpb hmb C2 L1 K2
  generalize (St.new A 100).more p = S0 at *
  obtain ⟨pb, hpb⟩ : ∃ pb, pb = p.pb := ⟨_, rfl⟩
  rw [← hpb] at O1
  rw [← hpb]
  clear hpb
  go_wp2_with fail
  go_loopw [38] (fun cnt wr => ∃ (i : Nat) (S : St) (p : Pl), i ≤ n0 ∧ cnt = .int .i64 i ∧ One w pb S p wr) (fun cnt _ => n0 - (intOf cnt).toNat)
  case atStart => exact ⟨0, S0, p, by omega, rfl, O1.out⟩
  case round =>
    clear O1 p S0
    obtain ⟨i, S, p, hi, rfl, hO⟩ := hrel
    have HH := Lib.hid hO
    clear hO
    by_cases hlt : i < n0
    · obtain ⟨b, off, x, rfl, -, c0, c1, c2, c3, c4, c5, c6, hfit⟩ := (X0.out.later HH.out.keeps).at hlt
      have hii : (i : Int) < (n0 : Int) := by omega
      have KA := (Keeps.refl none' wr).alloc (.cells #[.int .i64 x.Kind, .int .i64 x.N, .int .i64 x.X, .int .i64 x.Y, .int .i64 x.W, .int .i64 x.H, .int .i64 x.V] 39)
      have H2 := Lib.hid (HH.out.later KA)
      have C := do_any _ S H2.out.rep 0 p (by rw [H2.out.ps]; rfl) x hfit
      rw [H2.out.pb] at C
      have C := Lib.hid C
      clear KA hfit
      go_wp2_with fail
      refine C.out.mono ?_
      rintro e w2 ⟨S', p', rfl, hm, hr, hk2⟩
      have H3 := Lib.hid (H2.out.step hm hr hk2)
      clear hm hr hk2
      go_wp2_with fail
      go_roundw
      case rel => exact ⟨i + 1, S', p', by omega, by go_num, H3.out⟩
      case measure => simp [intOf]; omega
    · obtain rfl : i = n0 := by omega
      have C := snap_any wr S HH.out.rep 0 p (by rw [HH.out.ps]; rfl) (by rw [HH.out.ps]; simp)
      rw [HH.out.pb] at C
      have C := Lib.hid C
      go_wp2_with fail
      refine C.out.mono ?_
      rintro e w4 ⟨q, rfl, hR, hK, q1, q2, q3, q4, q5, q6⟩
      have hps : (S.more q).ps = [p, q] := by simp [St.more, HH.out.ps]
      have hsz := HH.out.keeps.size
      have hlow : Low (S.more q) w.heap.size := HH.out.low.more (by omega) (by omega)
      have hkp : Keeps none' w w4 := HH.out.keeps.over hK (fun b hb => HH.out.low.live b hb)
      have CP := pixels_any w4 (S.more q) hR 0 p (by rw [hps]; rfl) HH.out.W HH.out.H
      rw [HH.out.pb] at CP
      have CP := Lib.hid CP
      have EQ : ∀ x y, px (S.more q) q x y = px (S.more q) p x y := fun x y => by unfold px; rw [q3]
      have FR := Lib.hid (And.intro hR (And.intro hps (And.intro hlow (And.intro hkp (And.intro EQ (And.intro HH.out.pb (And.intro HH.out.W (And.intro HH.out.H (And.intro (q1.trans HH.out.W) (q2.trans HH.out.H))))))))))
      clear hR hK q1 q2 q3 q4 q5 q6 hps hsz hlow hkp EQ C HH
      generalize S.more q = S1 at *
      go_wp2_with fail
      refine CP.out.mono ?_
      rintro e w5 ⟨aa, cc, rfl, hI, hK, hB⟩
      obtain ⟨hR, hps, hlow, hkp, EQ, hpb, hW, hH, qW, qH⟩ := FR.out
      have T0 := Lib.hid (show Two w pb (fun x y => px S1 q x y) q aa (pixTo S1 p 1600) S1 p w5 from ⟨hR.later hK, hps, hpb, hW, hH, hlow, hkp.trans hK (fun _ _ h => h), fun _ _ => rfl, Away.new hR hB hI, hI⟩)
      have EQ2 := Lib.hid (pixTo_congr 1600 EQ)
      have QW := Lib.hid (And.intro qW qH)
      clear hI hK hB hR hps hlow hkp EQ hpb hW hH qW qH FR CP
      generalize hzs : pixTo S1 p 1600 = zs at *
      clear hzs
      obtain ⟨f, hf⟩ : ∃ f : Nat → Nat → Nat, f = fun x y => px S1 q x y := ⟨_, rfl⟩
      have EQ3 := Lib.hid (show ∀ (S : St), (∀ x y, px S q x y = f x y) → pixTo S q 1600 = zs from fun S hS => (pixTo_congr 1600 (fun x y => by rw [hS, hf])).trans EQ2.out)
      rw [← hf] at T0
      clear hf EQ2
      go_wp2_with fail
      go_loopw [55] (fun cnt wr => ∃ (i : Nat) (S : St) (p : Pl), i ≤ n1 ∧ cnt = .int .i64 i ∧ Two w pb f q aa zs S p wr) (fun cnt _ => n1 - (intOf cnt).toNat)
      case atStart => exact ⟨0, S1, p, by omega, rfl, T0.out⟩
      case round =>
        clear T0
        obtain ⟨i, S, p, hi, rfl, hO⟩ := hrel
        have HH := Lib.hid hO
        clear hO
        by_cases hlt : i < n1
        · obtain ⟨b, off, x, rfl, -, c0, c1, c2, c3, c4, c5, c6, hfit⟩ := (Y0.out.later HH.out.keeps).at hlt
          have hii : (i : Int) < (n1 : Int) := by omega
          have KA := (Keeps.refl none' wr).alloc (.cells #[.int .i64 x.Kind, .int .i64 x.N, .int .i64 x.X, .int .i64 x.Y, .int .i64 x.W, .int .i64 x.H, .int .i64 x.V] 39)
          have H2 := Lib.hid (HH.out.later KA)
          have C := do_any _ S H2.out.rep 0 p (by rw [H2.out.ps]; rfl) x hfit
          rw [H2.out.pb] at C
          have C := Lib.hid C
          clear KA hfit
          go_wp2_with fail
          refine C.out.mono ?_
          rintro e w2 ⟨S', p', rfl, hm, hr, hk2⟩
          have H3 := Lib.hid (H2.out.step hm hr hk2)
          clear hm hr hk2
          go_wp2_with fail
          go_roundw
          case rel => exact ⟨i + 1, S', p', by omega, by go_num, H3.out⟩
          case measure => simp [intOf]; omega
        · obtain rfl : i = n1 := by omega
          have CQ := pixels_any wr S HH.out.rep 1 q (by rw [HH.out.ps]; rfl) QW.out.1 QW.out.2
          rw [EQ3.out S HH.out.same] at CQ
          have CQ := Lib.hid CQ
          go_wp2_with fail
          refine CQ.out.mono ?_
          rintro e w6 ⟨ab, cb, rfl, hI, hK, hB⟩
          have H6 := Lib.hid (HH.out.later hK)
          have CS := Lib.hid (same_any w6 ab aa cb cc zs hI H6.out.ints)
          have CP := pixels_any w6 S H6.out.rep 0 p (by rw [H6.out.ps]; rfl) H6.out.W H6.out.H
          rw [H6.out.pb] at CP
          have CP := Lib.hid CP
          clear hI hK hB CQ HH
          go_wp2_with fail
          refine CS.out.mono ?_
          rintro e w' ⟨rfl, rfl⟩
          go_wp2_with fail
          refine CP.out.mono ?_
          rintro e w7 ⟨ad, cd, rfl, hI, hK, hB⟩
          have H7 := Lib.hid (H6.out.later hK)
          have AW := Lib.hid (show Away S ad w7 from Away.new H6.out.rep hB hI)
          have IN := Lib.hid hI
          have CF := Lib.hid (fill_did w7 S H7.out.rep 1 q (by rw [H7.out.ps]; rfl) 0 0 40 40 77 ⟨by omega, by omega⟩ ⟨by omega, by omega⟩)
          clear hI hK hB CP CS H6
          go_wp2_with fail
          refine CF.out.mono ?_
          rintro e w8 ⟨c, S2, q2, rfl, hm, hr, hk⟩
          have hps2 : S2.ps = [p, q2] := by rw [hm.ps, H7.out.ps]; rfl
          have hpx : ∀ x y, px S2 p x y = px S p x y := fun x y => hm.px (m := 0) (by omega) (by rw [H7.out.ps]; rfl) x y
          have hlow := hm.low H7.out.low H7.out.keeps.size
          have K8 := Lib.hid (H7.out.keeps.over hk (fun b hb => H7.out.low b hb))
          have AW8 := Lib.hid (AW.out.mod hm hk.size)
          have IN8 := Lib.hid (AW.out.ints IN.out hk)
          have CD := drop_any w8 S2 hr 1 q2 (by rw [hps2]; rfl)
          rw [hm.pb] at CD
          have CD := Lib.hid CD
          have F8 := Lib.hid (And.intro hps2 (And.intro hpx (And.intro hlow (And.intro H7.out.pb (And.intro H7.out.W H7.out.H)))))
          clear hm hr hk hps2 hpx hlow CF H7 AW IN
          go_wp2_with fail
          refine CD.out.mono ?_
          rintro e w9 ⟨rfl, hr, hk⟩
          obtain ⟨hps2, hpx, hlow, hpb, hW, hH⟩ := F8.out
          have K9 := Lib.hid (K8.out.over hk (fun b hb => hlow b hb))
          have IN9 := Lib.hid (AW8.out.ints IN8.out hk)
          have CP := pixels_any w9 _ hr 0 p (by show (S2.ps.set 1 _)[0]? = _; rw [hps2]; rfl) hW hH
          rw [hpb, pixTo_congr 1600 (S' := S) (p' := p) (fun x y => (show px (S2.drop 1 q2) p x y = px S2 p x y from rfl).trans (hpx x y))] at CP
          have CP := Lib.hid CP
          clear hr hk hps2 hpx hlow hpb hW hH F8 CD K8 AW8 IN8
          go_wp2_with fail
          refine CP.out.mono ?_
          rintro e w10 ⟨ae, ce, rfl, hI, hK, hB⟩
          have K10 := Lib.hid (K9.out.trans hK (fun _ _ h => h))
          have CS := Lib.hid (same_any w10 ae ad ce cd _ hI (IN9.out.later hK))
          clear hI hK hB CP
          go_wp2_with fail
          refine CS.out.mono ?_
          rintro e w' ⟨rfl, rfl⟩
          go_wp2_with fail
          go_ret
          exact ⟨rfl, K10.out⟩
theorem apart_walk (a0 : Option Addr) (n0 c0 : Nat) (xs : List Op) (a1 : Option Addr) (n1 c1 : Nat) (ys : List Op) (w : World) (hx : Ops w a0 n0 xs) (hy : Ops w a1 n1 ys) : Calls Try.prog 4 #[.slice a0 n0 c0, .slice a1 n1 c1] w (Yes w) := by
  by_cases h : 20 < n0 ∨ 20 < n1
  · exact apart_long a0 n0 c0 a1 n1 c1 w h
  · exact apart_good a0 n0 c0 xs a1 n1 c1 ys w (by omega) (by omega) hx hy
end Go.Proofs.Ytkafccdbofoepaa
