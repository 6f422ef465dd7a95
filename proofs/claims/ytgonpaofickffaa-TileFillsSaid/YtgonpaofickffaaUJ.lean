/- TileFills, its walk. -/
import Derived.Test.YtgonpaofickffaaUI
import Derived.BigQuiet
import Derived.Deep.QuietTactic
namespace Go.Proofs.Ytgonpaofickffaa
open Go.RowKit Go.Maps
set_option linter.unusedVariables false

/-- Two planes, each alone in its arena. -/
structure Duo (w1 : World) (W H AA AB PA PB : Nat) (Sa Sb : St) (p q : Pl) (wr : World) : Prop where
  ra : Rep wr Sa
  rb : Rep wr Sb
  pa : Sa.ps = [p]
  pb : Sb.ps = [q]
  ca : Sa.cap = 100
  cb : Sb.cap = 100
  aa : Sa.A = AA
  ab : Sb.A = AB
  ba : p.pb = PA
  bb : q.pb = PB
  wa : p.W = W
  ha : p.H = H
  wb : q.W = W
  hb : q.H = H
  sep : Sep Sb Sa
  la : Low Sa w1.heap.size
  lb : Low Sb w1.heap.size
  keeps : Keeps none' w1 wr
theorem Duo.later {w1 wr w' : World} {W H AA AB PA PB : Nat} {Sa Sb : St} {p q : Pl} (h : Duo w1 W H AA AB PA PB Sa Sb p q wr) (k : Keeps none' wr w') : Duo w1 W H AA AB PA PB Sa Sb p q w' :=
  { h with ra := h.ra.later k, rb := h.rb.later k, keeps := h.keeps.trans k (fun _ _ h => h) }
theorem Duo.stepA {w1 wr w' : World} {W H AA AB PA PB : Nat} {Sa Sb S' : St} {p q p' : Pl} (h : Duo w1 W H AA AB PA PB Sa Sb p q wr) (hm : Mod wr.heap.size Sa S' 0 p p') (hr : Rep w' S') (hk : Keeps (Foot Sa) wr w') : Duo w1 W H AA AB PA PB S' Sb p' q w' :=
  { ra := hr, rb := h.sep.keep h.rb hk, pa := by rw [hm.ps, h.pa]; rfl, pb := h.pb, ca := hm.cap.trans h.ca, cb := h.cb, aa := hm.A.trans h.aa, ab := h.ab, ba := hm.pb.trans h.ba, bb := h.bb, wa := hm.W.trans h.wa, ha := hm.H.trans h.ha, wb := h.wb, hb := h.hb, sep := h.sep.mod h.rb hm, la := hm.low h.la h.keeps.size, lb := h.lb, keeps := h.keeps.over hk (fun b hb => h.la b hb) }
theorem Duo.stepB {w1 wr w' : World} {W H AA AB PA PB : Nat} {Sa Sb S' : St} {p q q' : Pl} (h : Duo w1 W H AA AB PA PB Sa Sb p q wr) (hm : Mod wr.heap.size Sb S' 0 q q') (hr : Rep w' S') (hk : Keeps (Foot Sb) wr w') : Duo w1 W H AA AB PA PB Sa S' p q' w' :=
  { ra := h.sep.symm.keep h.ra hk, rb := hr, pa := h.pa, pb := by rw [hm.ps, h.pb]; rfl, ca := h.ca, cb := hm.cap.trans h.cb, aa := h.aa, ab := hm.A.trans h.ab, ba := h.ba, bb := hm.pb.trans h.bb, wa := h.wa, ha := h.ha, wb := hm.W.trans h.wb, hb := hm.H.trans h.hb, sep := (h.sep.symm.mod h.ra hm).symm, la := h.la, lb := hm.low h.lb h.keeps.size, keeps := h.keeps.over hk (fun b hb => h.lb b hb) }
end Go.Proofs.Ytgonpaofickffaa
