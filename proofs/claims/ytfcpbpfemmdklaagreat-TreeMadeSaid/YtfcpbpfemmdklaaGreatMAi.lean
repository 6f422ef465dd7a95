/- Texts of a layer, one behind the other. -/
import Derived.Test.YtfcpbpfemmdklaaGreatMAe
import Derived.Test.YtfcpbpfemmdklaaGreatMAf
import Derived.Test.YtfcpbpfemmdklaaGreatMAg
import Derived.Test.YtfcpbpfemmdklaaGreatMAh
import Derived.Test.YtfcpbpfemmdklaaGreatMAb
import Derived.Deep.MidRow
import Derived.Deep.RegionWith
import Derived.Deep.RegionHeld3
/- A document's homes, where their headers lie; a new layer put in. -/
namespace Go.Proofs.YtfcpbpfemmdklaaGreat.Tr
open Go.RowKit Go.Lib
set_option linter.unusedSimpArgs false
set_option linter.unusedVariables false

theorem home_doc (id : Int) (R : Nat) (h : Hd) (ls : List Loc) :
    (∃ f, (f = 40 ∨ f = 41) ∧ homeP id (er ls) = .error f ∧ groupV R id (sps 0 R 3 0 h.b h.o 0 ls) = (homeV 0 none 0, f)) ∨
    ∃ C h' ls', homeP id (er ls) = .ok (C.map Frm.er, er ls') ∧ groupV R id (sps 0 R 3 0 h.b h.o 0 ls) = (homeV (idOf C) (some ⟨kbOf R C, koOf C, none⟩) ((C.length : Nat) : Int), 0) ∧ plugH C h' = h ∧ plugL C h' ls' = ls := by
  unfold homeP groupV
  by_cases h0 : id = 0
  · rw [if_pos h0, if_pos h0]
    exact .inr ⟨[], h, ls, rfl, rfl, rfl, rfl⟩
  · rw [if_neg h0, if_neg h0]
    rcases find_doc id R h ls with ⟨a, b⟩ | ⟨C, pre, l, post, h', a1, a2, a3, a4⟩
    · rw [a, b]
      exact .inl ⟨40, .inl rfl, rfl, rfl⟩
    · rw [a1, a2]
      simp only
      by_cases hk : l.dat.kind = 1
      · have hk2 : (sptOf R C h' pre.length l).l.dat.kind = 1 := hk
        rw [if_pos hk, if_pos hk2]
        cases l with
        | mk d p m q k kids =>
          exact .inr ⟨⟨h', pre, d, p, m, q, post⟩ :: C, k, kids, rfl, rfl, a3, a4⟩
      · have hk2 : ¬ (sptOf R C h' pre.length l).l.dat.kind = 1 := hk
        rw [if_neg hk, if_neg hk2]
        exact .inl ⟨41, .inr rfl, rfl, rfl⟩
/-- Where a home's header lies. -/
theorem Whole.at_ {B : Nat} {w : World} {R : Nat} {x y z : Int} {C : List Frm} {h : Hd} {ls : List Loc} (W : Whole B w R x y z (plugH C h) (plugL C h ls)) :
    w.cell? ⟨kbOf R C, koOf C, none⟩ = some (.slice h.a h.n h.c) ∧ w.frozen? ⟨kbOf R C, koOf C, none⟩ = false := by
  obtain ⟨-, -, c0⟩ := W.ctx
  cases C with
  | nil =>
    have d := W.doc
    exact ⟨Dc.c3 (x := x) (y := y) (z := z) (h := h) d, Dc.fr (x := x) (y := y) (z := z) (h := h) d⟩
  | cons f C =>
    rw [CtxOwn] at c0
    have r := c0.1
    have hn : 0 < f.h.n := by
      have h1 := r.1.1
      have h2 := row_pos f h []
      rcases Nat.eq_zero_or_pos f.h.n with e | e
      · rw [e] at h1; omega
      · exact e
    obtain ⟨g, c, cur, e, hB, hh, hc, hs, ht⟩ := r.some hn
    have eb : f.h.b = g := by rw [e]; rfl
    have eo : f.h.o = 0 := by rw [e]; rfl
    have h3 := flat_at (f.row h []) f.pre.length (.mk f.d f.p f.m f.q h []) (by unfold Frm.row; rw [List.getElem?_append_right (Nat.le_refl _), Nat.sub_self]; rfl) 18 (.slice h.a h.n h.c) rfl
    have h4 := row_pos f h []
    have h5 : (flat (f.row h [])).length = f.h.n * 19 := r.1.1
    have hko : koOf (f :: C) = f.pre.length * 19 + 18 := by simp [koOf, eo]
    have hkb : kbOf R (f :: C) = g := eb
    rw [hko, hkb]
    refine ⟨?_, by simp [World.frozen?, hh]⟩
    rw [cell_of_row _ _ _ _ _ _ hh, ← Array.getElem?_toList]
    rw [← ht, List.getElem?_take_of_lt (by omega)] at h3
    exact h3
theorem Whole.len {B : Nat} {w : World} {R : Nat} {x y z : Int} {C : List Frm} {h : Hd} {ls : List Loc} (W : Whole B w R x y z (plugH C h) (plugL C h ls)) : h.n = ls.length := by
  have h1 := W.ctx.1.1.1
  rw [flat_length] at h1
  omega
theorem dats_len : ∀ (ls : List Lay), ls.length ≤ (dats ls).length
  | [] => by rw [dats]; exact Nat.le_refl _
  | .mk d kids :: ls => by
    have := dats_len ls
    rw [dats]
    simp only [List.length_cons, List.length_append]
    omega
theorem pcnt_plug (C : List PFrm) (xs : List Lay) : pcnt (plugP C xs) = pcnt xs + (datsC C).length := by
  unfold pcnt
  rw [(dats_plug C xs).length_eq, List.length_append]
theorem ctx_depth : ∀ C : List PFrm, C.length ≤ (datsC C).length
  | [] => Nat.zero_le _
  | f :: C => by
    have := ctx_depth C
    rw [datsC]
    simp only [List.length_cons, List.length_append]
    omega
theorem len_small {C : List Frm} {h : Hd} {ls ls0 : List Loc} (e : plugL C h ls = ls0) (hc : pcnt (er ls0) ≤ 4096) : ls.length ≤ 4096 ∧ C.length ≤ 4096 := by
  have h1 := pcnt_plug (C.map Frm.er) (er ls)
  rw [← er_plug C h ls, e] at h1
  have h2 := dats_len (er ls)
  have h3 := ctx_depth (C.map Frm.er)
  rw [er_length] at h2
  rw [List.length_map] at h3
  unfold pcnt at h1 hc
  omega
theorem Whole.later {B : Nat} {w w' : World} {R : Nat} {x y z : Int} {h : Hd} {ls : List Loc} (W : Whole B w R x y z h ls) (k : Keeps none' w w') : Whole B w' R x y z h ls :=
  ⟨(k.later R (lt_of_block W.doc)).trans W.doc, W.row.later k, W.own.later k, W.nodup, W.out⟩
theorem Whole.docV {B : Nat} {w : World} {R : Nat} {x y z : Int} {h : Hd} {ls : List Loc} (W : Whole B w R x y z h ls) : DocV w h ls := ⟨W.row.read.1, W.own.rep⟩
theorem Whole.low {B B' : Nat} {w : World} {R : Nat} {x y z : Int} {h : Hd} {ls : List Loc} (W : Whole B w R x y z h ls) (hB : B' ≤ B) : Whole B' w R x y z h ls := ⟨W.doc, W.row.low hB, W.own.low hB, W.nodup, W.out⟩
theorem er_map : ∀ ls : List Loc, er ls = ls.map (fun l => Lay.mk l.dat (er l.kids))
  | [] => by rw [er]; rfl
  | l :: ls => by rw [er_cons, er_map ls, List.map_cons]
theorem insAt_er (at_ : Int) (i : Nat) (lx : Loc) (ls : List Loc) (hi : i ≤ ls.length) (hat : at_ = (i : Int) ∨ (at_ = -1 ∧ i = ls.length)) : er (ls.take i ++ lx :: ls.drop i) = insAt at_ (.mk lx.dat (er lx.kids)) (er ls) := by
  have e1 : ∀ j, er (ls.take j) = (er ls).take j := fun j => by rw [er_map, er_map ls, List.map_take]
  have e2 : ∀ j, er (ls.drop j) = (er ls).drop j := fun j => by rw [er_map, er_map ls, List.map_drop]
  rw [er_append, er_cons, e1, e2 i]
  unfold insAt
  rcases hat with e | ⟨e, e'⟩
  · rw [if_neg (by omega), e, Int.toNat_natCast]
  · rw [if_pos e, e', List.take_of_length_le (by rw [er_length]; omega), List.drop_of_length_le (by rw [er_length]; omega)]
/-- A layer put into a document's home, whole. -/
theorem put_doc {B : Nat} {w w3 : World} {R : Nat} {x y z : Int} {C : List Frm} {h : Hd} {ls : List Loc} {lx : Loc} (at_ : Int) (i : Nat) (W : Whole B w3 R x y z (plugH C h) (plugL C h ls)) (kw : Keeps (fun q => B ≤ q) w w3) (hBR : B ≤ R) (hBw : B ≤ w3.heap.size)
    (ox : Own B w3 [lx]) (nx : (blks [lx]).Nodup) (dx : ∀ b ∈ blks [lx], b ≠ R ∧ b ∉ (h.blk ++ blks ls) ++ outs C) (hi : i ≤ ls.length) (hsm : ls.length < 536870912) (hat : at_ = (i : Int) ∨ (at_ = -1 ∧ i = ls.length)) (id : Int) (dep : Nat) :
    Calls Tryz.prog 75 #[.agg #[.int .i64 id, .pointer (some ⟨kbOf R C, koOf C, none⟩), .int .i64 (dep : Int)], .int .i64 at_, .agg lx.cells.toArray] w3 fun e w' =>
      e = .returned (.tuple #[]) ∧ ∃ h' lsL, er lsL = plugP (C.map Frm.er) (insAt at_ (.mk lx.dat (er lx.kids)) (er ls)) ∧ Whole B w' R x y z h' lsL ∧ Keeps (fun q => B ≤ q) w w' := by
  obtain ⟨a1, a2⟩ := W.at_
  have hn := W.len
  obtain ⟨rowh, -, c0⟩ := W.ctx
  have kbm := kb_mem R c0
  have out := W.out'
  have ndo := List.nodup_append.1 W.nd
  have hne : (Value.slice h.a h.n h.c).ownBlock ≠ some (kbOf R C) := by
    intro e
    have e1 := ownBlock_blk.1 e
    rcases kbm with e2 | e2
    · exact out (by rw [← e2]; simp [e1])
    · exact ndo.2.2 _ (List.mem_append.2 (.inl e1)) _ e2 rfl
  refine (put_any B id (kbOf R C) (koOf C) dep h ls at_ i lx w3 a1 a2 rowh hBw (by omega) (by omega) (hat.imp (fun e => e) (fun e => ⟨e.1, by omega⟩)) hne).mono ?_
  rintro e w' ⟨h', W1, rfl, e2, e3, k1, rfl, no⟩
  obtain ⟨W2, k2⟩ := put_whole W ox nx dx e3 k1 no
  refine ⟨rfl, _, _, ?_, W2, kw.trans k2 (fun q hq e => ?_)⟩
  · rw [er_plug, insAt_er at_ i lx ls hi hat]
  · rcases e with e | e
    · exact (W.lt q (by simp [e])).1
    · rcases kbm with e2 | e2
      · omega
      · rw [e]; exact (W.lt _ (List.mem_append.2 (.inr e2))).1
end Go.Proofs.YtfcpbpfemmdklaaGreat.Tr

/- Pixels, shifts, a layer of a kind. -/
namespace Go.Proofs.YtfcpbpfemmdklaaGreat.Tr
open Go.RowKit Go.Lib
set_option linter.unusedSimpArgs false
set_option linter.unusedVariables false

theorem i64_mask8 (x : Int) : bits .and .i64 x 255 = x % 256 := by
  show IntKind.i64.wrap ((BitVec.ofInt 64 x &&& BitVec.ofInt 64 255).toNat : Int) = _
  rw [BitVec.toNat_and, BitVec.toNat_ofInt]
  have h : ((BitVec.ofInt 64 255).toNat) = 2 ^ 8 - 1 := by decide
  rw [h, Nat.and_two_pow_sub_one_eq_mod]
  rw [wrap_i64 _ (by omega) (by omega)]
  omega
def px0 (v : Int) : Int := v / 16777216 % 256
def px1 (v : Int) : Int := v / 65536 % 256
def px2 (v : Int) : Int := v / 256 % 256
def px3 (v : Int) : Int := v % 256
/-- Is it a pixel with no colour above its alpha? -/
def pixB (v : Int) : Bool := (decide (0 ≤ v) && decide (v ≤ 4294967295)) && (decide (px0 v ≤ px3 v) && (decide (px1 v ≤ px3 v) && decide (px2 v ≤ px3 v)))
set_option maxRecDepth 100000 in
set_option maxHeartbeats 800000 in
theorem split68 (v : Int) (h : 0 ≤ v ∧ v ≤ 4294967295) (w : World) : Calls Tryz.prog 105 #[.int .i64 v] w fun e w' =>
    e = .returned (.agg #[.int .i64 (px0 v), .int .i64 (px1 v), .int .i64 (px2 v), .int .i64 (px3 v)]) ∧ Keeps none' w w' := by
  have m0 := i64_mask8 (v / 16777216)
  have m1 := i64_mask8 (v / 65536)
  have m2 := i64_mask8 (v / 256)
  have m3 := i64_mask8 v
  rw [show v / 16777216 % 256 = px0 v from rfl] at m0
  rw [show v / 65536 % 256 = px1 v from rfl] at m1
  rw [show v / 256 % 256 = px2 v from rfl] at m2
  rw [show v % 256 = px3 v from rfl] at m3
  obtain ⟨h0, h1⟩ := h
  generalize px0 v = a at *
  generalize px1 v = b at *
  generalize px2 v = c at *
  generalize px3 v = d at *
  have K0 := Lib.hid ((Keeps.refl none' w).alloc (.cells #[.int .i64 a, .int .i64 b, .int .i64 c, .int .i64 d] 139))
  go_enter Tryz.func105, Tryz.ntmps105
  go_wp2_with fail
  refine bodyPost_ret (results_cell_row rfl _ _ w.heap.size 139 #[.int .i64 a, .int .i64 b, .int .i64 c, .int .i64 d] (0, 0) _ rfl (heap_alloc_new _ _) Tryz.underlying139 rfl (by kernel_rfl)) rfl ?_
  exact ⟨rfl, K0.out⟩
theorem px_bounds (v : Int) : (0 ≤ px0 v ∧ px0 v ≤ 255) ∧ (0 ≤ px1 v ∧ px1 v ≤ 255) ∧ (0 ≤ px2 v ∧ px2 v ≤ 255) ∧ (0 ≤ px3 v ∧ px3 v ≤ 255) := by
  unfold px0 px1 px2 px3
  omega
theorem meas_lt {n i : Nat} (h : i < n) {x : Int} (e : x = (i : Int) + 1) : n - (intOf (Value.int IntKind.i64 x)).toNat < n - (intOf (Value.int IntKind.i64 (i : Int))).toNat := by
  rw [e]
  show n - ((i : Int) + 1).toNat < n - ((i : Int)).toNat
  omega
/-- The greatest of three is above a number. -/
theorem max3_lt {p0 p1 p2 p3 mx : Int} (hmx : mx = (if (if p0 < p1 then p1 else p0) < p2 then p2 else if p0 < p1 then p1 else p0)) : p3 < mx ↔ ¬ (p0 ≤ p3 ∧ (p1 ≤ p3 ∧ p2 ≤ p3)) := by
  rw [hmx]
  split <;> split <;> omega
set_option maxRecDepth 100000 in
set_option maxHeartbeats 1600000 in
/-- Are all of these pixels? There is a row. -/
theorem pixels54_some (b o n c : Nat) (l : List Int) (w : World) (D : ReadR w 3 1 ⟨some ⟨b, o, none⟩, n, c⟩ (ints l)) : Calls Tryz.prog 81 #[.slice (some ⟨b, o, none⟩) n c] w fun e w' => e = .returned (.bool (l.all pixB)) ∧ Keeps none' w w' := by
  have HD := Lib.hid D
  have hl : l.length = n := by
    have := D.1.len
    simpa [ints] using this
  have hn : n ≤ 536870912 := D.2
  have HL := Lib.hid (And.intro hl hn)
  clear D hl hn
  go_enter Tryz.func81, Tryz.ntmps81
  go_wp2_with fail
  go_loopw [8] (fun s8 wr => ∃ i : Nat, i ≤ n ∧ s8 = .int .i64 i ∧ (l.take i).all pixB = true ∧ Keeps none' w wr) (fun s8 _ => n - (intOf s8).toNat)
  case atStart => exact ⟨0, Nat.zero_le _, rfl, by simp, Keeps.refl _ _⟩
  case round =>
    obtain ⟨i, hi, rfl, ha, hk⟩ := hrel
    have HA := Lib.hid ha
    have K := Lib.hid hk
    clear ha hk
    by_cases hlt : i < n
    · have tk : decide ((i : Int) < (n : Int)) = true := by simp; omega
      have tk2 : decide (i < n) = true := by simp; omega
      obtain ⟨v, hv⟩ : ∃ v, l[i]? = some v := ⟨_, List.getElem?_eq_getElem (by have := HL.out.1; omega)⟩
      have ce : wr.cell? ⟨b, o + i, none⟩ = some (.int .i64 v) := K.out.cell ((HD.out.1.at' _ rfl).2.2 i _ (by unfold ints; rw [List.getElem?_map, hv]; rfl))
      have HV := Lib.hid hv
      have TK := Lib.hid (show l.take (i + 1) = l.take i ++ [v] from take_more hv)
      clear hv
      have hb : (i : Int) < 536870912 := by have := HL.out.2; omega
      have iw : wrap64 ((i : Int) + 1) = (i : Int) + 1 := wrap64_id _ (by omega) (by omega)
      have U := Lib.hid (fun w' => upto46 v 4294967295 w')
      by_cases hp : 0 ≤ v ∧ v ≤ 4294967295
      · have hu : (decide (0 ≤ v) && decide (v ≤ 4294967295)) = true := by simp [hp.1, hp.2]
        simp only [hu] at U
        have SP := Lib.hid (fun w' => split68 v hp w')
        have pb := px_bounds v
        have HP := Lib.hid hu
        obtain ⟨p0, hp0⟩ : ∃ p0, p0 = px0 v := ⟨_, rfl⟩
        obtain ⟨p1, hp1⟩ : ∃ p1, p1 = px1 v := ⟨_, rfl⟩
        obtain ⟨p2, hp2⟩ : ∃ p2, p2 = px2 v := ⟨_, rfl⟩
        obtain ⟨p3, hp3⟩ : ∃ p3, p3 = px3 v := ⟨_, rfl⟩
        have PB := Lib.hid (show pixB v = (decide (p0 ≤ p3) && (decide (p1 ≤ p3) && decide (p2 ≤ p3))) from by unfold pixB; rw [hu, hp0, hp1, hp2, hp3]; simp)
        rw [← hp0, ← hp1, ← hp2, ← hp3] at SP
        clear hp hu pb hp0 hp1 hp2 hp3
        go_upto_if 26 with (first
          | ((with_reducible refine (U.out _).mono ?_); rintro en w3 ⟨rfl, hw⟩; subst hw)
          | ((with_reducible refine (SP.out _).mono ?_); rintro en w4 ⟨rfl, hk4⟩; have K4 := Lib.hid (K.out.next hk4); clear hk4))
        have K5 := Lib.hid (K4.out.alloc (.cells #[.int .i64 p0, .int .i64 p1, .int .i64 p2, .int .i64 p3] 139))
        generalize w4.alloc (.cells #[.int .i64 p0, .int .i64 p1, .int .i64 p2, .int .i64 p3] 139) = w5 at *
        obtain ⟨mx, hmx⟩ : ∃ mx, mx = (if (if p0 < p1 then p1 else p0) < p2 then p2 else if p0 < p1 then p1 else p0) := ⟨_, rfl⟩
        rw [← hmx]
        have ML : p3 < mx ↔ ¬ (p0 ≤ p3 ∧ (p1 ≤ p3 ∧ p2 ≤ p3)) := by
          exact max3_lt hmx
        have IW := Lib.hid (And.intro hb iw)
        clear hmx U SP ce tk tk2 hb iw
        by_cases t : p3 < mx
        · have d1 : decide (p3 < mx) = true := by simpa using t
          have NP := Lib.hid (show l.all pixB = false from by
            rw [List.all_eq_false]
            refine ⟨v, List.mem_of_getElem? HV.out, ?_⟩
            rw [PB.out]
            have := ML.1 t
            simpa using this)
          clear ML
          go_wp2_with fail
          go_ret
          exact ⟨by rw [NP.out]; rfl, K5.out⟩
        · have d1 : decide (p3 < mx) = false := by simpa using t
          have ALL := Lib.hid (show (l.take (i + 1)).all pixB = true from by
            rw [TK.out, List.all_append, HA.out]
            have h9 : p0 ≤ p3 ∧ (p1 ≤ p3 ∧ p2 ≤ p3) := by
              by_cases h8 : p0 ≤ p3 ∧ (p1 ≤ p3 ∧ p2 ≤ p3)
              · exact h8
              · exact absurd (ML.2 h8) t
            simp [PB.out, h9.1, h9.2.1, h9.2.2])
          have iw := IW.out.2
          clear ML
          go_wp2_with fail
          go_roundw
          case rel => exact ⟨i + 1, Nat.succ_le_of_lt hlt, by (show Value.int .i64 (wrap64 ((i : Int) + 1)) = Value.int .i64 ((i + 1 : Nat) : Int)); rw [iw]; rfl, ALL.out, K5.out⟩
          case measure => exact meas_lt hlt iw
      · have hu : (decide (0 ≤ v) && decide (v ≤ 4294967295)) = false := by
          cases hq : (decide (0 ≤ v) && decide (v ≤ 4294967295)) with
          | false => rfl
          | true => simp at hq; exact absurd hq hp
        simp only [hu] at U
        have NP := Lib.hid (show l.all pixB = false from by
          rw [List.all_eq_false]
          exact ⟨v, List.mem_of_getElem? HV.out, by unfold pixB; rw [hu]; simp⟩)
        clear hp hu
        go_wp2_with ((with_reducible refine (U.out _).mono ?_); rintro en w3 ⟨rfl, hw⟩; subst hw)
        go_ret
        exact ⟨by rw [NP.out]; rfl, K.out⟩
    · obtain rfl : i = n := by omega
      have tk : decide ((i : Int) < (i : Int)) = false := by simp
      have FA := Lib.hid (show l.all pixB = true from by
        have := HA.out
        rw [List.take_of_length_le (by have := HL.out.1; omega)] at this
        exact this)
      go_wp2_with fail
      go_ret
      exact ⟨by rw [FA.out]; rfl, K.out⟩
set_option maxRecDepth 100000 in
set_option maxHeartbeats 800000 in
theorem pixels54_none (w : World) : Calls Tryz.prog 81 #[.slice none 0 0] w fun e w' => e = .returned (.bool true) ∧ Keeps none' w w' := by
  go_enter Tryz.func81, Tryz.ntmps81
  go_wp2_with fail
  go_loopw [8] (fun s8 wr => s8 = .int .i64 0 ∧ Keeps none' w wr) (fun _ _ => 0)
  case atStart => exact ⟨rfl, Keeps.refl _ _⟩
  case round =>
    obtain ⟨rfl, hk⟩ := hrel
    have K := Lib.hid hk
    clear hk
    go_wp2_with fail
    go_ret
    exact ⟨rfl, K.out⟩
/-- Are all of these pixels? -/
theorem pixels54 (h : Hd) (l : List Int) (w : World) (D : ReadR w 3 1 h (ints l)) : Calls Tryz.prog 81 #[.slice h.a h.n h.c] w fun e w' => e = .returned (.bool (l.all pixB)) ∧ Keeps none' w w' := by
  obtain ⟨a, n, c⟩ := h
  cases a with
  | none =>
    obtain ⟨h1, h2⟩ := D.1.abs rfl
    have h1' : n = 0 := h1
    have h2' : c = 0 := h2
    subst h1' h2'
    have hl : l = [] := by
      have := D.1.len
      simp [ints] at this
      exact this
    subst hl
    exact pixels54_none w
  | some x =>
    obtain ⟨h1, -, -⟩ := D.1.at' x rfl
    obtain ⟨b, o, sp⟩ := x
    simp only at h1
    subst h1
    exact pixels54_some b o n c l w D
def shiftP (n : Int) : Bool := decide (-32768 ≤ n) && decide (n ≤ 32768)
set_option maxRecDepth 100000 in
set_option maxHeartbeats 400000 in
theorem shift55 (n : Int) (w : World) : Calls Tryz.prog 82 #[.int .i64 n] w fun e w' => e = .returned (.bool (shiftP n)) ∧ w' = w := by
  unfold shiftP
  by_cases h : -32768 ≤ n
  · have a1 : decide (n ≥ -32768) = true := by simpa using h
    by_cases h2 : n ≤ 32768
    · have b1 : decide (n ≤ 32768) = true := by simpa using h2
      go_enter Tryz.func82, Tryz.ntmps82
      go_wp2
      go_ret
      exact ⟨by simp [h, h2], rfl⟩
    · have b1 : decide (n ≤ 32768) = false := by simpa using h2
      go_enter Tryz.func82, Tryz.ntmps82
      go_wp2
      go_ret
      exact ⟨by simp [h, h2], rfl⟩
  · have a1 : decide (n ≥ -32768) = false := by simpa using h
    go_enter Tryz.func82, Tryz.ntmps82
    go_wp2
    go_ret
    exact ⟨by simp [h], rfl⟩
/-- What is answered of a layer of a kind. -/
def kindV (id kind : Int) (xs : List Spt) : Option Addr × Int :=
  if id = 0 then (none, 41) else match findP id xs with
  | none => (none, 40)
  | some X => if X.l.dat.kind = kind then (some ⟨X.b, X.o, none⟩, 0) else (none, 41)
set_option maxRecDepth 100000 in
set_option maxHeartbeats 1600000 in
theorem kind53 (R : Nat) (x y z : Int) (h : Hd) (ls : List Loc) (id kind : Int) (w : World) (C : Dc w R x y z h) (D : DocV w h ls) (hc : cnt ls ≤ 1099511627776) :
    Calls Tryz.prog 80 #[.pointer (some ⟨R, 0, none⟩), .int .i64 id, .int .i64 kind] w fun e w' => e = .returned (.tuple #[.pointer (kindV id kind (sps 0 R 3 0 h.b h.o 0 ls)).1, .int .i64 (kindV id kind (sps 0 R 3 0 h.b h.o 0 ls)).2]) ∧ Keeps none' w w' := by
  by_cases h0 : id = 0
  · have KV := Lib.hid (show kindV id kind (sps 0 R 3 0 h.b h.o 0 ls) = (none, 41) from by unfold kindV; rw [if_pos h0])
    have e0 : (id == 0) = true := by simpa using h0
    clear h0
    go_enter Tryz.func80, Tryz.ntmps80
    go_wp2_with fail
    go_ret2
    rw [KV.out]
    exact ⟨rfl, Keeps.refl _ _⟩
  · have e0 : (id == 0) = false := by simpa using h0
    have LA := layer57 R x y z h ls id w C D hc
    cases hf : findP id (sps 0 R 3 0 h.b h.o 0 ls) with
    | none =>
      have KV := Lib.hid (show kindV id kind (sps 0 R 3 0 h.b h.o 0 ls) = (none, 40) from by unfold kindV; rw [if_neg h0, hf])
      rw [hf] at LA
      have L := Lib.hid LA
      clear LA hf h0
      go_enter Tryz.func80, Tryz.ntmps80
      go_wp2_with ((with_reducible refine L.out.mono ?_); rintro en w2 ⟨rfl, hk⟩; have K := Lib.hid hk; clear hk)
      go_ret2
      rw [KV.out]
      exact ⟨rfl, K.out⟩
    | some X =>
      have KV := Lib.hid (show kindV id kind (sps 0 R 3 0 h.b h.o 0 ls) = if X.l.dat.kind = kind then (some ⟨X.b, X.o, none⟩, 0) else (none, 41) from by unfold kindV; rw [if_neg h0, hf])
      rw [hf] at LA
      have L := Lib.hid LA
      obtain ⟨h', ls', off, hh', hl', ha', ho', -⟩ := sps_valid ((D.home C).low) (by rw [Nat.zero_add]; exact hc) X (List.mem_of_find?_eq_some hf)
      have HK := Lib.hid (show w.cell? ⟨X.b, X.o + 1, none⟩ = some (.int .i64 X.l.dat.kind) from by
        obtain ⟨b', o', e, hc⟩ := hh'.home.lies (by have := (List.getElem?_eq_some_iff.1 hl').1; omega)
        rw [ha'] at e
        cases e
        rw [ho']
        exact hc X.i X.l hl' 1 _ (by cases X.l; rfl))
      clear LA hf h0 hh' hl' ha' ho'
      by_cases hk : X.l.dat.kind = kind
      · rw [if_pos hk] at KV
        have e1 : (X.l.dat.kind != kind) = false := by simp [hk]
        clear hk
        go_enter Tryz.func80, Tryz.ntmps80
        go_wp2_with ((with_reducible refine L.out.mono ?_); rintro en w2 ⟨rfl, hk⟩; have K := Lib.hid hk; have kd := hk.cell HK.out; clear hk)
        go_ret2
        rw [KV.out]
        exact ⟨rfl, K.out⟩
      · rw [if_neg hk] at KV
        have e1 : (X.l.dat.kind != kind) = true := by simpa using hk
        clear hk
        go_enter Tryz.func80, Tryz.ntmps80
        go_wp2_with ((with_reducible refine L.out.mono ?_); rintro en w2 ⟨rfl, hk⟩; have K := Lib.hid hk; have kd := hk.cell HK.out; clear hk)
        go_ret2
        rw [KV.out]
        exact ⟨rfl, K.out⟩
end Go.Proofs.YtfcpbpfemmdklaaGreat.Tr

/- A right layer's mask. -/
namespace Go.Proofs.YtfcpbpfemmdklaaGreat.Tr
open Go.RowKit Go.Lib
set_option linter.unusedSimpArgs false
set_option linter.unusedVariables false

theorem mask_right_none (x y z : Int) (h : Hd) (w : World) :
    Calls Tryz.prog 69 #[docV x y z h, .slice none 0 0] w fun en w' => en = .returned (.bool true) ∧ Keeps none' w w' := by
  unfold docV
  have K0 := Lib.hid ((Keeps.refl none' w).alloc (.cells #[.int .i64 x, .int .i64 y, .int .i64 z, .slice h.a h.n h.c] 26))
  go_enter Tryz.func69, Tryz.ntmps69
  go_wp2_with fail
  generalize w.alloc (.cells #[.int .i64 x, .int .i64 y, .int .i64 z, .slice h.a h.n h.c] 26) = w1 at *
  go_loopw [22] (fun s22 wr => s22 = .int .i64 0 ∧ Keeps none' w wr) (fun _ _ => 0)
  case atStart => exact ⟨rfl, K0.out⟩
  case round =>
    obtain ⟨rfl, hk⟩ := hrel
    have K := Lib.hid hk
    clear hk
    go_wp2_with fail
    go_ret
    exact ⟨rfl, K.out⟩
set_option maxRecDepth 100000 in
set_option maxHeartbeats 1600000 in
theorem mask_right_some (x y z : Int) (h : Hd) (b o n c : Nat) (l : List Int) (w : World) (D : ReadR w 5 1 ⟨some ⟨b, o, none⟩, n, c⟩ (bytes l)) (hxy : -9223372036854775808 ≤ x * y ∧ x * y ≤ 9223372036854775807) (hl : n ≠ 0 → (n : Int) = x * y) (hv : ∀ v ∈ l, v = 0 ∨ v = 255) :
    Calls Tryz.prog 69 #[docV x y z h, .slice (some ⟨b, o, none⟩) n c] w fun en w' => en = .returned (.bool true) ∧ Keeps none' w w' := by
  unfold docV
  have HD := Lib.hid D
  have HL := Lib.hid (show l.length = n ∧ n ≤ 536870912 from ⟨by have := D.1.len; simpa [bytes] using this, D.2⟩)
  have HV := Lib.hid hv
  have K0 := Lib.hid ((Keeps.refl none' w).alloc (.cells #[.int .i64 x, .int .i64 y, .int .i64 z, .slice h.a h.n h.c] 26))
  have A0 := Lib.hid (Dc.new w x y z h)
  have wx : wrap64 (x * y) = x * y := wrap64_id _ hxy.1 hxy.2
  have wx2 : IntKind.i64.wrap (x * y) = x * y := wrap_i64 _ hxy.1 hxy.2
  clear D hv hxy
  go_enter Tryz.func69, Tryz.ntmps69
  go_upto_region 1 with fail
  obtain ⟨A, hA⟩ : ∃ A, A = w.heap.size := ⟨_, rfl⟩
  rw [← hA] at A0
  rw [← hA]
  clear hA
  generalize w.alloc (.cells #[.int .i64 x, .int .i64 y, .int .i64 z, .slice h.a h.n h.c] 26) = w1 at *
  have c0 := A0.out.c0
  have c1 := A0.out.c1
  go_cut [19] from 5 (fun s19 w' => s19 = .bool false ∧ w' = w1)
  case first =>
    by_cases h0 : n = 0
    · have t1 : ((n : Int) != 0) = false := by simp [h0]
      have t2 : decide ((n : Int) = 0) = true := by simp [h0]
      have t3 : decide (¬ (n : Int) = 0) = false := by simp [h0]
      clear hl h0
      go_wp2_with fail
      go_meet
      case rel => exact ⟨rfl, rfl⟩
    · have e := hl h0
      have t1 : ((n : Int) != 0) = true := by simp; omega
      have t2 : decide ((n : Int) = 0) = false := by simp; omega
      have t3 : decide (¬ (n : Int) = 0) = true := by simp; omega
      rw [← e] at wx wx2
      have s1 : ((n : Int) != x * y) = false := by simp [e]
      have s2 : decide ((n : Int) = x * y) = true := by simp [e]
      have s3 : decide (¬ (n : Int) = x * y) = false := by simp [e]
      have wx3 : wrap64 (x * y) = x * y := by rw [← e]; exact wx
      have wx4 : IntKind.i64.wrap (x * y) = x * y := by rw [← e]; exact wx2
      clear hl h0 e wx wx2
      go_wp2_with fail
      go_meet
      case rel => exact ⟨rfl, rfl⟩
  case rest =>
  obtain ⟨rfl, rfl⟩ := hcut
  clear hl wx wx2 c0 c1 A0
  go_wp2_with fail
  go_loopw [22] (fun s22 wr => ∃ i : Nat, i ≤ n ∧ s22 = .int .i64 i ∧ Keeps none' w wr) (fun s22 _ => n - (intOf s22).toNat)
  case atStart => exact ⟨0, Nat.zero_le _, rfl, K0.out⟩
  case round =>
    obtain ⟨i, hi, rfl, hk⟩ := hrel
    have K := Lib.hid hk
    clear hk
    by_cases hlt : i < n
    · have tk : decide ((i : Int) < (n : Int)) = true := by simp; omega
      have tk2 : decide (i < n) = true := by simp; omega
      have hii : (i : Int) < n := by omega
      obtain ⟨v, hv⟩ : ∃ v, l[i]? = some v := ⟨_, List.getElem?_eq_getElem (by have := HL.out.1; omega)⟩
      have ce : wr.cell? ⟨b, o + i, none⟩ = some (.int .u8 v) := K.out.cell ((HD.out.1.at' _ rfl).2.2 i _ (by unfold bytes; rw [List.getElem?_map, hv]; rfl))
      have hv2 := HV.out v (List.mem_of_getElem? hv)
      have hb : (i : Int) < 536870912 := by have := HL.out.2; omega
      have iw : wrap64 ((i : Int) + 1) = (i : Int) + 1 := wrap64_id _ (by omega) (by omega)
      clear hv
      rcases hv2 with rfl | rfl
      · go_wp2_with fail
        go_roundw
        case rel => exact ⟨i + 1, Nat.succ_le_of_lt hlt, by go_num, K.out⟩
        case measure => exact meas_lt hlt rfl
      · go_wp2_with fail
        go_roundw
        case rel => exact ⟨i + 1, Nat.succ_le_of_lt hlt, by go_num, K.out⟩
        case measure => exact meas_lt hlt rfl
    · obtain rfl : i = n := by omega
      have tk : decide ((i : Int) < (i : Int)) = false := by simp
      go_wp2_with fail
      go_ret
      exact ⟨rfl, K.out⟩
/-- A right mask is one. -/
theorem mask_right (x y z : Int) (h m : Hd) (l : List Int) (w : World) (D : ReadR w 5 1 m (bytes l)) (hxy : -9223372036854775808 ≤ x * y ∧ x * y ≤ 9223372036854775807) (hl : l = [] ∨ (l.length : Int) = x * y) (hv : ∀ v ∈ l, v = 0 ∨ v = 255) :
    Calls Tryz.prog 69 #[docV x y z h, .slice m.a m.n m.c] w fun en w' => en = .returned (.bool true) ∧ Keeps none' w w' := by
  have hn : l.length = m.n := by have := D.1.len; simpa [bytes] using this
  obtain ⟨a, n, c⟩ := m
  cases a with
  | none =>
    obtain ⟨h1, h2⟩ := D.1.abs rfl
    simp only at h1 h2
    subst h1 h2
    exact mask_right_none x y z h w
  | some a =>
    have hs := (D.1.at' a rfl).1
    obtain ⟨b, o, s⟩ := a
    simp only at hs
    subst hs
    refine mask_right_some x y z h b o n c l w D hxy (fun h0 => ?_) hv
    rcases hl with rfl | hl
    · exact absurd hn.symm h0
    · rw [← hl, hn]
end Go.Proofs.YtfcpbpfemmdklaaGreat.Tr

/- Adding a layer. -/
namespace Go.Proofs.YtfcpbpfemmdklaaGreat.Tr
open Go.RowKit Go.Lib
set_option linter.unusedSimpArgs false
set_option linter.unusedVariables false

/-- The edit in its block, as one value. -/
def Row35 (w : World) (b : Nat) : Prop := ∃ cs, w.heap[b]? = some (.cells cs 38 (0, 0)) ∧ cs.size = 19
theorem size35 : (Tryz.prog.info? 38).map (·.size) = some 19 := by kernel_rfl
theorem ldx35 {ev : Operand → Value} {x : Operand} {w : World} {d : Option Tmp} {t : TypeId} {p : String} {af} {g} (h : ev x = .pointer (some ⟨ptrBlock (ev x), 0, none⟩)) (r : Row35 w (ptrBlock (ev x))) :
    (execOp ev { dst := d, op := Op.load 38 x, type := t, pos := p, after := af, guard := g }).run Tryz.prog w = .ok (.value (.agg (rowAt w (ptrBlock (ev x))))) w := by
  obtain ⟨cs, h1, h2⟩ := r
  unfold execOp
  generalize ptrBlock (ev x) = b at *
  simp only [h, Instr.loadAt, Instr.sureAddr, Sem.run_bind, Sem.run_pure, Result.andThen_ok, run_loadVar_row w b 38 38 cs (0, 0) _ h1 Tryz.underlying38 rfl (by rw [h2]; exact size35)]
  unfold rowAt
  rw [h1]
theorem Eb.row {w : World} {E : Nat} {e : PEd} {p s q : Hd} (h : Eb w E e p s q) : Row35 w E ∧ rowAt w E = (edCells e p s q).toArray := by
  refine ⟨⟨_, h, rfl⟩, ?_⟩
  unfold rowAt
  rw [show w.heap[E]? = _ from h]
theorem Whole.setNext {B : Nat} {w : World} {R : Nat} {x y z : Int} {h : Hd} {ls : List Loc} (W : Whole B w R x y z h ls) (z' : Int) : Whole B (w.setCell ⟨R, 2, none⟩ (.int .i64 z')) R x y z' h ls := by
  have out := W.out
  refine ⟨Dc.s2 (x := x) (y := y) (z := z) (h := h) W.doc z', W.row.keepB (keeps_at w R 2 _) (fun b hb e => ?_), W.own.keep (keeps_at w R 2 _) (fun b hb e => ?_), W.nodup, W.out⟩
  · have e' : b = R := e
    exact out (by rw [← e']; simp [hb])
  · have e' : b = R := e
    exact out (by rw [← e']; simp [hb])
/-- What an edit leaves of a document that nobody else has any part of. -/
def Edited (B : Nat) (w : World) (R : Nat) (x y z' : Int) (r : Except Int (List Lay)) (en : Ending) (w' : World) : Prop :=
  match r with
  | .error f => en = .returned (.int .i64 f) ∧ Keeps (fun q => B ≤ q) w w'
  | .ok ls' => en = .returned (.int .i64 0) ∧ ∃ h' lsL, er lsL = ls' ∧ Whole B w' R x y z' h' lsL ∧ Keeps (fun q => B ≤ q) w w'
theorem Edited.err {B : Nat} {w : World} {R : Nat} {x y z' : Int} {r : Except Int (List Lay)} {f : Int} {w' : World} (e : r = .error f) (k : Keeps none' w w') : Edited B w R x y z' r (.returned (.int .i64 f)) w' := by
  subst e
  exact ⟨rfl, keeps_weak k (fun q _ h => h.elim)⟩
theorem Edited.good {B : Nat} {w : World} {R : Nat} {x y z' : Int} {r : Except Int (List Lay)} {ls' : List Lay} {h' : Hd} {lsL : List Loc} {w' : World} (e : r = .ok ls') (e1 : er lsL = ls') (W : Whole B w' R x y z' h' lsL) (k : Keeps (fun q => B ≤ q) w w') : Edited B w R x y z' r (.returned (.int .i64 0)) w' := by
  subst e
  exact ⟨rfl, h', lsL, e1, W, k⟩
theorem new_loc {w : World} {d : Dat} {p : Hd} (hm : d.mask = []) (hq : d.pars = []) {B : Nat} (o : OwnR B w 3 1 p (ints d.p)) : Own B w [.mk d p Hd.nil Hd.nil Hd.nil []] := by
  rw [own_cons]
  have nl : ∀ (e k : Nat), OwnR B w e k Hd.nil [] := fun e k => ⟨⟨by simp [Hd.nil], .inl ⟨rfl, rfl⟩⟩, fun u hu => (by cases hu), by show 0 ≤ _; omega⟩
  refine ⟨o, by rw [hm]; exact nl 5 1, by rw [hq]; exact nl 3 1, by rw [flat]; exact nl 51 19, by unfold Own; rw [All]; trivial, by unfold Own; rw [All]; trivial⟩
theorem blks_new (d : Dat) (p : Hd) : blks [.mk d p Hd.nil Hd.nil Hd.nil []] = p.blk := by
  unfold blks
  rw [hds, hds]
  simp [Hd.blk, Hd.nil]
theorem fresh_mask (z n w h : Int) : (freshD z n w h).mask = [] ∧ (freshD z n w h).pars = [] := by unfold freshD; split <;> exact ⟨rfl, rfl⟩
attribute [local go_sem ↓] ldx35
attribute [local go_sem] ptrBlock_some aggCells_agg
set_option maxRecDepth 100000 in
set_option maxHeartbeats 800000 in
theorem add30 (B R : Nat) (x y z : Int) (h : Hd) (ls : List Loc) (e : PEd) (p s q : Hd) (w : World) (W : Whole B w R x y z h ls) (G : Good z (er ls)) (hz : z ≤ 4611686018427387904) (hBR : B ≤ R) :
    Calls Tryz.prog 46 #[.pointer (some ⟨R, 0, none⟩), edV e p s q] w fun en w' => Edited B w R x y (z + 1) (addP z (er ls) e.to e.at_ e.n e.w e.h) en w' := by
  have HW := Lib.hid W
  have HG := Lib.hid G
  have HZ := Lib.hid (And.intro G.one hz)
  have HB := Lib.hid (And.intro hBR (lt_of_block W.doc))
  have HC := Lib.hid (show cnt ls ≤ 4096 from by rw [cnt_eq]; exact G.cnt)
  have E0 := Lib.hid (Eb.new w e p s q)
  have K0 := Lib.hid ((Keeps.refl none' w).alloc (.cells (edCells e p s q).toArray 38))
  clear W G hz hBR
  unfold edV
  obtain ⟨EV, hEV⟩ : ∃ EV, EV = (edCells e p s q).toArray := ⟨_, rfl⟩
  rw [← hEV]
  rw [← hEV] at E0 K0
  have HEV := Lib.hid hEV
  clear hEV
  go_enter Tryz.func46, Tryz.ntmps46
  go_upto_region 1 with (fail)
  generalize w.alloc (.cells EV 38) = w1 at *
  obtain ⟨E, hE⟩ : ∃ E, E = w.heap.size := ⟨_, rfl⟩
  rw [← hE] at E0
  rw [← hE]
  have EE := Lib.hid hE
  clear hE
  have e4 := E0.out.c4
  have U := Lib.hid (upto46 e.n 2 w1)
  cases hn : (decide (0 ≤ e.n) && decide (e.n ≤ 2)) with
  | false =>
    rw [hn] at U
    have A := Lib.hid (show addP z (er ls) e.to e.at_ e.n e.w e.h = .error 41 from by
      unfold addP
      rw [if_pos (by simpa using hn)])
    go_wp2_with ((with_reducible refine U.out.mono ?_); rintro en w2 ⟨rfl, hw⟩; subst hw)
    go_ret
    exact Edited.err A.out K0.out
  | true =>
    rw [hn] at U
    have A1 := Lib.hid (show ∀ X : Except Int (List Lay), (if ¬ (0 ≤ e.n ∧ e.n ≤ 2) then .error 41 else X) = X from fun X => by rw [if_neg (by simpa using hn)])
    have NB := Lib.hid (show 0 ≤ e.n ∧ e.n ≤ 2 from by simpa using hn)
    clear hn
    go_upto_region 3 with ((with_reducible refine U.out.mono ?_); rintro en w2 ⟨rfl, hw⟩; subst hw)
    clear U e4
    have e4 := E0.out.c4
    have e8 := E0.out.c8
    have e9 := E0.out.c9
    go_cut [21] from 11 (fun s21 w' => Keeps none' w2 w' ∧ s21 = .bool (decide (e.n = 0) && !(areaP e.w e.h)))
    case first =>
      by_cases h0 : e.n = 0
      · have en0 : (e.n == 0) = true := by simpa using h0
        have AR := Lib.hid (area16 e.w e.h w2)
        have HR := Lib.hid (show (decide (e.n = 0) && !(areaP e.w e.h)) = !(areaP e.w e.h) from by simp [h0])
        clear h0
        go_wp2_with ((with_reducible refine AR.out.mono ?_); rintro en w3 ⟨rfl, hw⟩; subst hw)
        go_meet
        case rel => exact ⟨Keeps.refl _ _, by rw [HR.out]⟩
      · have en0 : (e.n == 0) = false := by simpa using h0
        have HR := Lib.hid (show (decide (e.n = 0) && !(areaP e.w e.h)) = false from by simp [h0])
        clear h0
        go_wp2_with fail
        go_meet
        case rel => exact ⟨Keeps.refl _ _, by rw [HR.out]⟩
    case rest =>
    obtain ⟨kc, rfl⟩ := hcut
    have K2 := Lib.hid (K0.out.next kc)
    have E2 := Lib.hid (E0.out.later kc)
    clear kc e4 e8 e9 K0 E0
    cases hv : (decide (e.n = 0) && !(areaP e.w e.h)) with
    | true =>
      have A := Lib.hid (show addP z (er ls) e.to e.at_ e.n e.w e.h = .error 31 from by
        unfold addP
        rw [A1.out, if_pos (by simpa using hv)])
      clear hv
      go_wp2_with fail
      go_ret
      exact Edited.err A.out K2.out
    | false =>
    have A2 := Lib.hid (show ∀ X : Except Int (List Lay), (if e.n = 0 ∧ areaP e.w e.h = false then .error 31 else X) = X from fun X => by rw [if_neg (by simpa using hv)])
    have FR := Lib.hid (show e.n = 0 → areaP e.w e.h = true from fun h0 => by simpa [h0] using hv)
    clear hv
    have e2 := E2.out.c2
    have GR := Lib.hid (group47 R x y z h ls e.to wc ((HW.out.later K2.out).doc) ((HW.out.later K2.out).docV) (by have := HC.out; omega))
    rcases home_doc e.to R h ls with ⟨f, hf, hp, hgv⟩ | ⟨C, h', ls', hp, hgv, hH, hL⟩
    · have A := Lib.hid (show addP z (er ls) e.to e.at_ e.n e.w e.h = .error f from by
        unfold addP
        rw [A1.out, A2.out, hp])
      rw [hgv] at GR
      unfold homeV at GR
      clear hp hgv
      rcases hf with rfl | rfl
      · go_wp2_with ((with_reducible refine GR.out.mono ?_); rintro en w3 ⟨rfl, hk3⟩; have K3 := Lib.hid (K2.out.next hk3); clear hk3)
        go_ret
        exact Edited.err A.out (K3.out.alloc _)
      · go_wp2_with ((with_reducible refine GR.out.mono ?_); rintro en w3 ⟨rfl, hk3⟩; have K3 := Lib.hid (K2.out.next hk3); clear hk3)
        go_ret
        exact Edited.err A.out (K3.out.alloc _)
    · rw [hgv] at GR
      unfold homeV at GR
      simp only at GR
      subst hH
      subst hL
      have A3 := Lib.hid hp
      clear hp hgv
      obtain ⟨D, hD⟩ : ∃ D, D = C.length := ⟨_, rfl⟩
      rw [← hD] at GR
      have ED := Lib.hid hD
      clear hD
      go_upto_region 8 with ((with_reducible refine GR.out.mono ?_); rintro en w3 ⟨rfl, hk3⟩; have K3 := Lib.hid (K2.out.next hk3); have E3 := Lib.hid (E2.out.later hk3); clear hk3)
      clear e2
      have K4 := Lib.hid (K3.out.alloc (.cells #[.int .i64 (idOf C), .pointer (some ⟨kbOf R C, koOf C, none⟩), .int .i64 (D : Int)] 84))
      have H4 := Lib.hid (Hm.new w3 (idOf C) (kbOf R C) (koOf C) (D : Int))
      have E4 := Lib.hid (E3.out.later ((Keeps.refl none' w3).alloc (.cells #[.int .i64 (idOf C), .pointer (some ⟨kbOf R C, koOf C, none⟩), .int .i64 (D : Int)] 84)))
      obtain ⟨Hb, hHb⟩ : ∃ Hb, Hb = w3.heap.size := ⟨_, rfl⟩
      rw [← hHb] at H4
      rw [← hHb]
      clear hHb
      generalize w3.alloc (.cells #[.int .i64 (idOf C), .pointer (some ⟨kbOf R C, koOf C, none⟩), .int .i64 (D : Int)] 84) = w4 at *
      have W4 := Lib.hid (HW.out.later K4.out)
      have n4 := W4.out.at_.1
      have HLN := Lib.hid W4.out.len
      have e3 := E4.out.c3
      have m1 := H4.out.c1
      go_cut [44] from 32 (fun s44 w' => Keeps none' w4 w' ∧ s44 = .bool (decide (e.at_ < -1) || decide ((h'.n : Int) < e.at_)))
      case first =>
        by_cases t1 : e.at_ < -1
        · have d1 : decide (e.at_ < -1) = true := by simpa using t1
          have HR := Lib.hid (show (decide (e.at_ < -1) || decide ((h'.n : Int) < e.at_)) = true from by simp [t1])
          clear t1
          go_quiet (fail)
          go_wp2_with fail
          go_meet
          case rel => exact ⟨(Keeps.refl none' w4).drewN _, by rw [HR.out]⟩
        · have d1 : decide (e.at_ < -1) = false := by simpa using t1
          by_cases t2 : (h'.n : Int) < e.at_
          · have d2 : decide (e.at_ > (h'.n : Int)) = true := by simpa using t2
            have HR := Lib.hid (show (decide (e.at_ < -1) || decide ((h'.n : Int) < e.at_)) = true from by simp [t2])
            clear t1 t2
            go_quiet (fail)
            go_wp2_with fail
            go_meet
            case rel => exact ⟨(Keeps.refl none' w4).drewN _, by rw [HR.out]⟩
          · have d2 : decide (e.at_ > (h'.n : Int)) = false := by simpa using t2
            have HR := Lib.hid (show (decide (e.at_ < -1) || decide ((h'.n : Int) < e.at_)) = false from by simp only [d1, Bool.false_or, decide_eq_false_iff_not]; exact t2)
            clear t1 t2
            go_quiet (fail)
            go_wp2_with fail
            go_meet
            case rel => exact ⟨(Keeps.refl none' w4).drewN _, by rw [HR.out]⟩
      case rest =>
      obtain ⟨kc, rfl⟩ := hcut
      have K5 := Lib.hid (K4.out.next kc)
      have E5 := Lib.hid (E4.out.later kc)
      have H5 := Lib.hid (H4.out.later kc)
      clear kc n4 e3 m1 K4 E4 H4 W4
      cases hv : (decide (e.at_ < -1) || decide ((h'.n : Int) < e.at_)) with
      | true =>
        have A := Lib.hid (show addP z (er (plugL C h' ls')) e.to e.at_ e.n e.w e.h = .error 43 from by
          unfold addP
          rw [A1.out, A2.out, A3.out]
          simp only
          rw [if_pos (by rw [er_length, ← HLN.out]; simpa using hv)])
        clear hv
        go_wp2_with fail
        go_ret
        exact Edited.err A.out K5.out
      | false =>
      have A4 := Lib.hid (show ∀ X : Except Int (List Lay), (if e.at_ < -1 ∨ ((er ls').length : Int) < e.at_ then .error 43 else X) = X from fun X => by rw [if_neg (by rw [er_length, ← HLN.out]; simpa using hv)])
      have AT := Lib.hid (show -1 ≤ e.at_ ∧ e.at_ ≤ (h'.n : Int) from by simp at hv; omega)
      clear hv
      have W5 := Lib.hid (HW.out.later K5.out)
      obtain ⟨k, hk⟩ : ∃ k, k = cnt (plugL C h' ls') := ⟨_, rfl⟩
      have HK := Lib.hid hk
      have CT := Lib.hid (count14 x y z (plugH C h') (plugL C h' ls') wc W5.out.docV (by have := HC.out; omega))
      rw [← hk] at CT
      clear hk
      have c0 := Dc.c0 (x := x) (y := y) (z := z) (h := plugH C h') W5.out.doc
      have c1 := Dc.c1 (x := x) (y := y) (z := z) (h := plugH C h') W5.out.doc
      have c2 := Dc.c2 (x := x) (y := y) (z := z) (h := plugH C h') W5.out.doc
      have c3 := Dc.c3 (x := x) (y := y) (z := z) (h := plugH C h') W5.out.doc
      go_upto_region 10 with (fail)
      go_cut [54] from 45 (fun s54 w' => Keeps none' wc w' ∧ s54 = .bool (decide (4096 ≤ k) || decide (64 ≤ D)))
      case first =>
        by_cases t1 : 4096 ≤ k
        · have d1 : decide ((k : Int) ≥ 4096) = true := by simp; omega
          have d1' : decide (4096 ≤ k) = true := by simpa using t1
          have HR := Lib.hid (show (decide (4096 ≤ k) || decide (64 ≤ D)) = true from by simp [t1])
          go_wp2_with ((with_reducible refine CT.out.mono ?_); rintro en w6 ⟨rfl, hk6⟩)
          go_meet
          case rel => exact ⟨hk6, by rw [HR.out]⟩
        · have d1 : decide ((k : Int) ≥ 4096) = false := by simp; omega
          have d1' : decide (4096 ≤ k) = false := by simpa using t1
          by_cases t2 : 64 ≤ D
          · have d2 : decide ((D : Int) ≥ 64) = true := by simp; omega
            have d2' : decide (64 ≤ D) = true := by simpa using t2
            have HR := Lib.hid (show (decide (4096 ≤ k) || decide (64 ≤ D)) = true from by simp [t2])
            go_wp2_with ((with_reducible refine CT.out.mono ?_); rintro en w6 ⟨rfl, hk6⟩; have m2 := (H5.out.later hk6).c2)
            go_meet
            case rel => exact ⟨hk6, by rw [HR.out]⟩
          · have d2 : decide ((D : Int) ≥ 64) = false := by simp; omega
            have d2' : decide (64 ≤ D) = false := by simpa using t2
            have HR := Lib.hid (show (decide (4096 ≤ k) || decide (64 ≤ D)) = false from by simp only [d1', d2', Bool.false_or])
            go_wp2_with ((with_reducible refine CT.out.mono ?_); rintro en w6 ⟨rfl, hk6⟩; have m2 := (H5.out.later hk6).c2)
            go_meet
            case rel => exact ⟨hk6, by rw [HR.out]⟩
      case rest =>
      obtain ⟨kc, rfl⟩ := hcut
      have K6 := Lib.hid (K5.out.next kc)
      have E6 := Lib.hid (E5.out.later kc)
      have H6 := Lib.hid (H5.out.later kc)
      clear kc c0 c1 c2 c3 K5 E5 H5 W5 CT
      have PK := Lib.hid (show k = pcnt (er (plugL C h' ls')) ∧ D = (C.map Frm.er).length from ⟨by rw [HK.out, cnt_eq], by rw [List.length_map]; exact ED.out⟩)
      cases hv : (decide (4096 ≤ k) || decide (64 ≤ D)) with
      | true =>
        have A := Lib.hid (show addP z (er (plugL C h' ls')) e.to e.at_ e.n e.w e.h = .error 31 from by
          unfold addP
          rw [A1.out, A2.out, A3.out]
          simp only
          rw [A4.out, if_pos (by rw [← PK.out.1, ← PK.out.2]; simpa using hv)])
        clear hv
        go_wp2_with fail
        go_ret
        exact Edited.err A.out K6.out
      | false =>
      have A := Lib.hid (show addP z (er (plugL C h' ls')) e.to e.at_ e.n e.w e.h = .ok (plugP (C.map Frm.er) (insAt e.at_ (.mk (freshD z e.n e.w e.h) []) (er ls'))) from by
        unfold addP
        rw [A1.out, A2.out, A3.out]
        simp only
        rw [A4.out, if_neg (by rw [← PK.out.1, ← PK.out.2]; simpa using hv)])
      clear hv A1 A2 A3 A4 PK
      have W6 := Lib.hid (HW.out.later K6.out)
      have fre := fun (w' : World) (hk : Keeps none' wc w') => fresh49 R x y z (plugH C h') e p s q w' ((W6.out.later hk).doc) FR.out
      unfold edV at fre
      rw [← HEV.out] at fre
      have FRE := Lib.hid fre
      clear fre
      have PUT := Lib.hid (show ∀ (w7 : World) (p' : Hd), Keeps none' wc w7 → OwnR wc.heap.size w7 3 1 p' (ints (freshD z e.n e.w e.h).p) → Calls Tryz.prog 75 #[.agg #[.int .i64 (idOf C), .pointer (some ⟨kbOf R C, koOf C, none⟩), .int .i64 (D : Int)], .int .i64 e.at_, .agg (cells19 (freshD z e.n e.w e.h) p' Hd.nil Hd.nil Hd.nil).toArray] w7 fun en w' =>
          en = .returned (.tuple #[]) ∧ ∃ h2 lsL, er lsL = plugP (C.map Frm.er) (insAt e.at_ (.mk (freshD z e.n e.w e.h) []) (er ls')) ∧ Whole B w' R x y z h2 lsL ∧ Keeps (fun q => B ≤ q) w w' from by
        intro w7 p' hk op
        have hRw : R < wc.heap.size := lt_of_block W6.out.doc
        have hat := AT.out
        have hsm := (len_small (C := C) (h := h') (ls := ls') rfl HG.out.cnt).1
        have hln := HLN.out
        have dx : ∀ b ∈ blks [.mk (freshD z e.n e.w e.h) p' Hd.nil Hd.nil Hd.nil []], b ≠ R ∧ b ∉ (h'.blk ++ blks ls') ++ outs C := by
          intro b hb
          rw [blks_new] at hb
          have h1 := (op.range b hb).1
          exact ⟨by omega, fun e => by have := (W6.out.lt b e).2; omega⟩
        have kw : Keeps (fun q => B ≤ q) w w7 := (keeps_weak (K6.out.next hk) (fun q _ e => e.elim))
        have hBw : B ≤ wc.heap.size := by have := HB.out.1; omega
        have fm := fresh_mask z e.n e.w e.h
        have r := put_doc (lx := .mk (freshD z e.n e.w e.h) p' Hd.nil Hd.nil Hd.nil []) e.at_ (if e.at_ = -1 then ls'.length else e.at_.toNat) (W6.out.later hk) kw HB.out.1 (by have := hk.size; omega) (new_loc fm.1 fm.2 (op.low hBw)) (by rw [blks_new]; exact Hd.blk_nodup _) dx
          (by split <;> omega) (by omega) (by split <;> omega) (idOf C) D
        have e9 : (Lay.mk (Loc.dat (.mk (freshD z e.n e.w e.h) p' Hd.nil Hd.nil Hd.nil [])) (er (Loc.kids (.mk (freshD z e.n e.w e.h) p' Hd.nil Hd.nil Hd.nil [])))) = Lay.mk (freshD z e.n e.w e.h) [] := by
          show Lay.mk (freshD z e.n e.w e.h) (er []) = _
          rw [er]
        rw [e9] at r
        exact r)
      have r5 := E6.out.row.1
      have r6 : rowAt wc E = EV := by rw [E6.out.row.2, HEV.out]
      have e3 := E6.out.c3
      have m0 := H6.out.c0
      have m1 := H6.out.c1
      have m2 := H6.out.c2
      have r5d : Row35 wc.drew E := r5
      have r6d : rowAt wc.drew E = EV := r6
      go_upto_region 12 with (fail)
      go_cut [] from 55 (fun w' => ∃ h2 lsL, er lsL = plugP (C.map Frm.er) (insAt e.at_ (.mk (freshD z e.n e.w e.h) []) (er ls')) ∧ Whole B w' R x y z h2 lsL ∧ Keeps (fun q => B ≤ q) w w')
      case first =>
        go_region_law (first
          | (go_simp; (with_reducible refine (FRE.out wc.drew ((Keeps.refl none' wc).drew)).mono ?_); rintro en w7 ⟨p', rfl, op, hk7⟩; have k7 : Keeps none' wc w7 := (Keeps.refl none' wc).drew.next hk7; have e3' := k7.cell e3; have m0' := k7.cell m0; have m1' := k7.cell m1; have m2' := k7.cell m2; have OP := Lib.hid (show OwnR wc.heap.size w7 3 1 p' (ints (freshD z e.n e.w e.h).p) from op); clear op)
          | (go_simp; (with_reducible refine (PUT.out w7 p' k7 OP.out).mono ?_); rintro en w8 ⟨rfl, X8⟩))
        all_goals
          go_wp2_with fail
          go_meet
          case rel => exact X8
      case rest =>
        obtain ⟨h2, lsL, q1, q2, q3⟩ := hcut
        have Q := Lib.hid (And.intro q1 (And.intro q2 q3))
        have c2 := Dc.c2 (x := x) (y := y) (z := z) (h := h2) q2.doc
        have f2 := Dc.fr (i := 2) (x := x) (y := y) (z := z) (h := h2) q2.doc
        have wz : IntKind.i64.wrap (z + 1) = z + 1 := wrap_i64 _ (by have := HZ.out; omega) (by have := HZ.out; omega)
        have wz2 : wrap64 (z + 1) = z + 1 := wrap64_id _ (by have := HZ.out; omega) (by have := HZ.out; omega)
        clear q1 q2 q3 r5 r6 r5d r6d e3 m0 m1 m2
        go_wp2_with fail
        go_ret
        exact Edited.good A.out Q.out.1 (Q.out.2.1.setNext (z + 1)) (Q.out.2.2.trans (keeps_at _ R 2 _) (fun q hq e => by have e' : q = R := e; have := HB.out.1; omega))
end Go.Proofs.YtfcpbpfemmdklaaGreat.Tr

/- A right layer's parts: no table, no picture (97, 98). -/
namespace Go.Proofs.YtfcpbpfemmdklaaGreat.Tr
open Go.RowKit Go.Lib
set_option linter.unusedSimpArgs false
set_option linter.unusedVariables false

/-- A layer's cells, wherever it stands. -/
def LayP (w : World) (b o : Nat) (d : Dat) (p m q k : Hd) : Prop := ∀ j u, (cells19 d p m q k)[j]? = some u → w.cell? ⟨b, o + j, none⟩ = some u
theorem LayP.later {w w' : World} {b o : Nat} {d : Dat} {p m q k : Hd} (h : LayP w b o d p m q k) (kk : Keeps none' w w') : LayP w' b o d p m q k := fun j u hj => kk.cell (h j u hj)
theorem notab (b o : Nat) (d : Dat) (p m q k : Hd) (w : World) (H : LayP w b o d p m q k) (h1 : d.table = 2) (h2 : q.n = 0) :
    Calls Tryz.prog 97 #[.pointer (some ⟨b, o, none⟩)] w fun en w' => en = .returned (.bool true) ∧ Keeps none' w w' := by
  have c16 := H 16 _ rfl
  have c17 := H 17 _ rfl
  rw [h1] at c16
  have t1 : ((q.n : Int) == 0) = true := by simp [h2]
  have t2 : decide ((q.n : Int) = 0) = true := by simp [h2]
  clear h1 h2 H
  go_enter Tryz.func97, Tryz.ntmps97
  go_wp2_with fail
  go_ret
  exact ⟨rfl, Keeps.refl _ _⟩
/-- A struct of some cells, read as one step. -/
def ptrOff : Value → Nat
  | .pointer (some a) => a.off
  | _ => 0
def midL (w : World) (b o n : Nat) : List Value := (List.range n).map fun j => (w.cell? ⟨b, o + j, none⟩).getD (.bool false)
def Mid (w : World) (b o n : Nat) : Prop := w.rangeAt b o (midL w b o n)
theorem size36 : (Tryz.prog.info? 36).map (·.size) = some 6 := by kernel_rfl
theorem ldm36 {ev : Operand → Value} {x : Operand} {w : World} {d : Option Tmp} {t : TypeId} {p : String} {af} {g} (h : ev x = .pointer (some ⟨ptrBlock (ev x), ptrOff (ev x), none⟩)) (r : Mid w (ptrBlock (ev x)) (ptrOff (ev x)) 6) :
    (execOp ev { dst := d, op := Op.load 36 x, type := t, pos := p, after := af, guard := g }).run Tryz.prog w = .ok (.value (.agg (midL w (ptrBlock (ev x)) (ptrOff (ev x)) 6).toArray)) w := by
  unfold execOp
  generalize ptrBlock (ev x) = b at *
  generalize ptrOff (ev x) = o at *
  simp only [h, Instr.loadAt, Instr.sureAddr, Sem.run_bind, Sem.run_pure, Result.andThen_ok, run_loadVar_mid w b o 36 _ _ r Tryz.underlying36 rfl (by rw [size36]; simp [midL])]
theorem mid_of {w : World} {b o : Nat} {d : Dat} {p m q k : Hd} (H : LayP w b o d p m q k) : Mid w b (o + 9) 6 ∧ midL w b (o + 9) 6 = [.int .i64 d.ma, .int .i64 d.mb, .int .i64 d.mc, .int .i64 d.md, .int .i64 d.me, .int .i64 d.mf] := by
  have e : midL w b (o + 9) 6 = [.int .i64 d.ma, .int .i64 d.mb, .int .i64 d.mc, .int .i64 d.md, .int .i64 d.me, .int .i64 d.mf] := by
    have c9 : w.cell? ⟨b, o + 9 + 0, none⟩ = _ := H 9 _ rfl
    have c10 : w.cell? ⟨b, o + 9 + 1, none⟩ = _ := H 10 _ rfl
    have c11 : w.cell? ⟨b, o + 9 + 2, none⟩ = _ := H 11 _ rfl
    have c12 : w.cell? ⟨b, o + 9 + 3, none⟩ = _ := H 12 _ rfl
    have c13 : w.cell? ⟨b, o + 9 + 4, none⟩ = _ := H 13 _ rfl
    have c14 : w.cell? ⟨b, o + 9 + 5, none⟩ = _ := H 14 _ rfl
    rw [midL, show List.range 6 = [0, 1, 2, 3, 4, 5] from rfl]
    simp only [List.map_cons, List.map_nil, c9, c10, c11, c12, c13, c14, Option.getD_some]
  refine ⟨?_, e⟩
  unfold Mid
  rw [e]
  intro j u hj
  rw [Nat.add_assoc]
  refine H (9 + j) u ?_
  rcases j with _ | _ | _ | _ | _ | _ | j
  all_goals first
    | (simp at hj; subst hj; rfl)
    | (simp at hj)
theorem ptrOff_some (b i : Nat) : ptrOff (.pointer (some ⟨b, i, none⟩)) = i := rfl
attribute [local go_sem] ptrBlock_some ptrOff_some
theorem eqmap (a b c d f g a' b' c' d' f' g' : Int) (w : World) : (Op.equalIn 10000 36 (.agg #[.int .i64 a, .int .i64 b, .int .i64 c, .int .i64 d, .int .i64 f, .int .i64 g]) (.agg #[.int .i64 a', .int .i64 b', .int .i64 c', .int .i64 d', .int .i64 f', .int .i64 g'])).run Tryz.prog w = .ok (a == a' && b == b' && c == c' && d == d' && f == f' && g == g') w := by
  have u3 := Tryz.underlying3
  have a3 := Tryz.isAgg3
  have z3 := Tryz.sizeOf3
  rw [show (10000 : Nat) = 9999 + 1 from rfl, Op.equalIn]
  simp only [Sem.run_bind, run_underlying Tryz.underlying36, Result.andThen_ok]
  simp only [Std.Legacy.Range.forIn_eq_forIn_range', Std.Legacy.Range.size, Nat.sub_zero, Nat.add_sub_cancel, Nat.div_one, List.range'_succ, List.range'_zero, List.forIn_cons, List.forIn_nil]
  go_simp
  by_cases h1 : a = a'
  · by_cases h2 : b = b'
    · by_cases h3 : c = c'
      · by_cases h4 : d = d'
        · by_cases h5 : f = f'
          · by_cases h6 : g = g' <;> simp [h1, h2, h3, h4, h5, h6]
          · simp [h1, h2, h3, h4, h5]
        · simp [h1, h2, h3, h4]
      · simp [h1, h2, h3]
    · simp [h1, h2]
  · simp [h1]
set_option maxRecDepth 100000 in
set_option maxHeartbeats 1600000 in
theorem nopic (b o : Nat) (d : Dat) (p m q k : Hd) (w : World) (H : LayP w b o d p m q k) (hw : d.w = 0) (hh : d.h = 0) (hp : p.n = 0) (ha : d.ma = 65536) (hb : d.mb = 0) (hc : d.mc = 0) (hd : d.md = 65536) (he : d.me = 0) (hf : d.mf = 0) (hs : d.smooth = false) :
    Calls Tryz.prog 98 #[.pointer (some ⟨b, o, none⟩)] w fun en w' => en = .returned (.bool true) ∧ Keeps none' w w' := by
  have HL := Lib.hid H
  have PQ := Lib.hid (And.intro hw (And.intro hh hs))
  have MA := Lib.hid (And.intro ha (And.intro hb (And.intro hc (And.intro hd (And.intro he hf)))))
  have D15 := Lib.hid (show w.drew.cell? ⟨b, o + 15, none⟩ = some (.bool false) from by have h := H 15 _ rfl; rw [hs] at h; exact h)
  have c5 := H 5 _ rfl
  have c6 := H 6 _ rfl
  have c7 := H 7 _ rfl
  have c15 := H 15 _ rfl
  rw [hw] at c5
  rw [hh] at c6
  rw [hs] at c15
  have t1 : ((p.n : Int) == 0) = true := by simp [hp]
  have t2 : decide ((p.n : Int) = 0) = true := by simp [hp]
  have HO := Lib.hid (fun w' => one66 w')
  clear hw hh hp ha hb hc hd he hf hs H
  go_enter Tryz.func98, Tryz.ntmps98
  have EM := fun w => eqmap 65536 0 0 65536 0 0 65536 0 0 65536 0 0 w
  rw [show ((65536 : Int) == 65536 && (0 : Int) == 0 && (0 : Int) == 0 && (65536 : Int) == 65536 && (0 : Int) == 0 && (0 : Int) == 0) = true from rfl] at EM
  have HD := Lib.hid (show LayP w.drew b o d p m q k from HL.out)
  have SK := Lib.hid (show ∀ w', Keeps none' w.drew w' → (w'.cell? ⟨b, o + 5, none⟩ = some (.int .i64 0) ∧ w'.cell? ⟨b, o + 6, none⟩ = some (.int .i64 0) ∧ w'.cell? ⟨b, o + 7, none⟩ = some (.slice p.a p.n p.c) ∧ w'.cell? ⟨b, o + 9, none⟩ = some (.int .i64 65536) ∧ w'.cell? ⟨b, o + 10, none⟩ = some (.int .i64 0) ∧ w'.cell? ⟨b, o + 11, none⟩ = some (.int .i64 0) ∧ w'.cell? ⟨b, o + 12, none⟩ = some (.int .i64 65536) ∧ w'.cell? ⟨b, o + 13, none⟩ = some (.int .i64 0) ∧ w'.cell? ⟨b, o + 14, none⟩ = some (.int .i64 0) ∧ w'.cell? ⟨b, o + 15, none⟩ = some (.bool false)) from fun w' kk => by
    have L := HD.out.later kk
    obtain ⟨a0, a1, a2, a3, a4, a5⟩ := MA.out
    refine ⟨?_, ?_, L 7 _ rfl, ?_, ?_, ?_, ?_, ?_, ?_, ?_⟩
    · have h := L 5 _ rfl; rw [PQ.out.1] at h; exact h
    · have h := L 6 _ rfl; rw [PQ.out.2.1] at h; exact h
    · have h := L 9 _ rfl; rw [a0] at h; exact h
    · have h := L 10 _ rfl; rw [a1] at h; exact h
    · have h := L 11 _ rfl; rw [a2] at h; exact h
    · have h := L 12 _ rfl; rw [a3] at h; exact h
    · have h := L 13 _ rfl; rw [a4] at h; exact h
    · have h := L 14 _ rfl; rw [a5] at h; exact h
    · have h := L 15 _ rfl; rw [PQ.out.2.2] at h; exact h)
  go_upto_region 1 with (fail)
  go_region_held3 (fun w' => w'.cell? ⟨b, o + 5, none⟩ = some (.int .i64 0) ∧ w'.cell? ⟨b, o + 6, none⟩ = some (.int .i64 0) ∧ w'.cell? ⟨b, o + 7, none⟩ = some (.slice p.a p.n p.c) ∧ w'.cell? ⟨b, o + 9, none⟩ = some (.int .i64 65536) ∧ w'.cell? ⟨b, o + 10, none⟩ = some (.int .i64 0) ∧ w'.cell? ⟨b, o + 11, none⟩ = some (.int .i64 0) ∧ w'.cell? ⟨b, o + 12, none⟩ = some (.int .i64 65536) ∧ w'.cell? ⟨b, o + 13, none⟩ = some (.int .i64 0) ∧ w'.cell? ⟨b, o + 14, none⟩ = some (.int .i64 0) ∧ w'.cell? ⟨b, o + 15, none⟩ = some (.bool false)) (first | exact SK.out _ (Keeps.refl _ _) | exact SK.out _ (by assumption))
    (first
    | (go_at_call 103; with_reducible refine (HO.out _).mono ?_; rintro e w' ⟨rfl, hk⟩))
  all_goals
    go_wp2_with fail
    go_ret
    exact ⟨rfl, (Keeps.refl none' w).drew.next (by assumption)⟩
end Go.Proofs.YtfcpbpfemmdklaaGreat.Tr

/- Moving, what hangs on plain words: how many kids a group has behind a taking; when two homes are one. -/
namespace Go.Proofs.YtfcpbpfemmdklaaGreat.Tr
open Go.RowKit Go.Lib
set_option linter.unusedSimpArgs false
set_option linter.unusedVariables false

/-- All layers, with how many kids each has. -/
def kls : List Lay → List (Dat × Nat)
  | [] => []
  | .mk d kids :: ls => (d, kids.length) :: (kls kids ++ kls ls)
theorem kls_append : ∀ (xs ys : List Lay), kls (xs ++ ys) = kls xs ++ kls ys
  | [], ys => by rw [kls]; rfl
  | .mk d kids :: xs, ys => by rw [List.cons_append, kls, kls, kls_append xs ys]; simp
def klsC : List PFrm → Nat → List (Dat × Nat)
  | [], _ => []
  | f :: C, n => (f.d, n) :: (kls f.pre ++ (kls f.post ++ klsC C (f.pre.length + 1 + f.post.length)))
theorem perm_mid {α : Type} (a : α) (p x q r : List α) : ((p ++ a :: (x ++ q)) ++ r).Perm (x ++ (a :: (p ++ (q ++ r)))) := by
  have e1 : ((p ++ a :: (x ++ q)) ++ r) = p ++ a :: (x ++ (q ++ r)) := by simp
  rw [e1]
  refine List.perm_middle.trans ((List.Perm.cons a ?_).trans List.perm_middle.symm)
  have e2 : (p ++ x ++ (q ++ r)).Perm (x ++ p ++ (q ++ r)) := List.perm_append_comm.append_right _
  rw [List.append_assoc, List.append_assoc] at e2
  exact e2
theorem kls_plug : ∀ (C : List PFrm) (xs : List Lay), (kls (plugP C xs)).Perm (kls xs ++ klsC C xs.length)
  | [], xs => by simp [plugP, klsC]
  | f :: C, xs => by
    refine (kls_plug C _).trans ?_
    rw [kls_append, kls, klsC]
    have e : (f.pre ++ .mk f.d xs :: f.post).length = f.pre.length + 1 + f.post.length := by
      rw [List.length_append, List.length_cons]; omega
    rw [e]
    exact perm_mid _ _ _ _ _
theorem kls_fst : ∀ (n : Nat) (ls : List Lay), SizeOf.sizeOf ls ≤ n → (kls ls).map (·.1) = dats ls
  | 0, ls, hs => by cases ls <;> simp at hs
  | n + 1, [], hs => by rw [kls, dats]; rfl
  | n + 1, .mk d kids :: ls, hs => by
    simp only [List.cons.sizeOf_spec, Lay.mk.sizeOf_spec] at hs
    rw [kls, dats, List.map_cons, List.map_append, kls_fst n kids (by omega), kls_fst n ls (by omega)]
theorem kls_map (ls : List Lay) : (kls ls).map (·.1) = dats ls := kls_fst _ ls (Nat.le_refl _)
theorem uniq_map {α β : Type} {f : α → β} {xs : List α} (h : (xs.map f).Nodup) {a b : α} (ha : a ∈ xs) (hb : b ∈ xs) (e : f a = f b) : a = b := by
  induction xs with
  | nil => cases ha
  | cons x xs ih =>
    rw [List.map_cons, List.nodup_cons] at h
    rcases List.mem_cons.1 ha with ha2 | ha2 <;> rcases List.mem_cons.1 hb with hb2 | hb2
    · rw [ha2, hb2]
    · exact (h.1 (List.mem_map.2 ⟨b, hb2, by rw [← e, ha2]⟩)).elim
    · exact (h.1 (List.mem_map.2 ⟨a, ha2, by rw [e, hb2]⟩)).elim
    · exact ih h.2 ha2 hb2
theorem kls_nodup {ls : List Lay} (h : ((dats ls).map (·.id)).Nodup) : ((kls ls).map (fun x => x.1.id)).Nodup := by
  rw [← kls_map, List.map_map] at h
  exact h
theorem homeP_kls {to : Int} {ls : List Lay} {C : List PFrm} {kids : List Lay} (h : homeP to ls = .ok (C, kids)) (h0 : to ≠ 0) : ∃ d : Dat, d.id = to ∧ (d, kids.length) ∈ kls ls := by
  obtain ⟨r, e1, e2, e3⟩ := homeP_mem h h0
  have p := fnd_plug e1
  simp only [Prod.mk.injEq] at e3
  obtain ⟨-, rfl⟩ := e3
  refine ⟨r.d, p.2, ?_⟩
  rw [← p.1]
  refine (kls_plug _ _).mem_iff.2 (List.mem_append.2 (.inl ?_))
  rw [kls_append, kls]
  simp
theorem plug_len (f : PFrm) : ∀ (C : List PFrm) (xs ys : List Lay), (plugP (f :: C) xs).length = (plugP (f :: C) ys).length := by
  intro C
  induction C generalizing f with
  | nil => intro xs ys; simp [plugP]
  | cons g C ih =>
    intro xs ys
    exact ih g (f.pre ++ .mk f.d xs :: f.post) (f.pre ++ .mk f.d ys :: f.post)
/-- How many kids a group has behind a taking. -/
theorem home_len {z id to : Int} {ls : List Lay} {r : At'} {C C' : List PFrm} {kids kids' : List Lay} (G : Good z ls) (hf : fnd id ls = some r) (h1 : homeP to ls = .ok (C, kids)) (h2 : homeP to (plugP r.C (r.pre ++ r.post)) = .ok (C', kids')) :
    (kids'.length : Int) = (kids.length : Int) - (if pidOf r.C = pidOf C then 1 else 0) := by
  have hp := fnd_plug hf
  have hC := (homeP_plug h1).2
  rw [hC]
  by_cases h0 : to = 0
  · unfold homeP at h1 h2
    rw [if_pos h0] at h1 h2
    simp only [Except.ok.injEq, Prod.mk.injEq] at h1 h2
    obtain ⟨-, rfl⟩ := h1
    obtain ⟨-, rfl⟩ := h2
    cases hc : r.C with
    | nil =>
      rw [hc] at hp
      have e1 : ls = r.pre ++ .mk r.d r.kids :: r.post := hp.1.symm
      rw [if_pos (by rw [h0]; rfl), e1]
      simp only [plugP, List.length_append, List.length_cons]
      omega
    | cons f D =>
      have hne : ¬ pidOf (f :: D) = to := by
        intro e
        have hm : f.d ∈ dats ls := by
          rw [← hp.1, hc]
          exact (dats_plug _ _).mem_iff.2 (List.mem_append.2 (.inr (by rw [datsC]; simp)))
        have := (G.range _ hm).1
        have e' : f.d.id = to := e
        omega
      rw [if_neg hne, Int.sub_zero]
      have := plug_len f D (r.pre ++ r.post) (r.pre ++ .mk r.d r.kids :: r.post)
      rw [hc] at hp
      rw [hp.1] at this
      rw [this]
  · obtain ⟨d, d1, d2⟩ := homeP_kls h1 h0
    obtain ⟨d', d1', d2'⟩ := homeP_kls h2 h0
    have nk := kls_nodup G.nodup
    have p1 := kls_plug r.C (r.pre ++ .mk r.d r.kids :: r.post)
    rw [hp.1] at p1
    have p2 := kls_plug r.C (r.pre ++ r.post)
    have len1 : (r.pre ++ .mk r.d r.kids :: r.post).length = (r.pre ++ r.post).length + 1 := by simp only [List.length_append, List.length_cons]; omega
    rw [len1] at p1
    generalize hn : (r.pre ++ r.post).length = n at p1 p2
    have sub : ∀ x ∈ kls (r.pre ++ r.post), x ∈ kls (r.pre ++ .mk r.d r.kids :: r.post) := by
      intro x hx
      rw [kls_append] at hx ⊢
      rw [kls]
      rcases List.mem_append.1 hx with hx | hx
      · simp [hx]
      · simp [hx]
    have fin : (d', kids'.length) ∈ kls ls → ¬ pidOf r.C = to → (kids'.length : Int) = (kids.length : Int) - (if pidOf r.C = to then 1 else 0) := by
      intro hm hne
      have := uniq_map nk hm d2 (by show d'.id = d.id; rw [d1, d1'])
      simp only [Prod.mk.injEq] at this
      rw [if_neg hne, this.2, Int.sub_zero]
    rcases List.mem_append.1 (p2.mem_iff.1 d2') with hm | hm
    · refine fin (p1.mem_iff.2 (List.mem_append.2 (.inl (sub _ hm)))) ?_
      intro e
      cases hc : r.C with
      | nil =>
        rw [hc] at e
        exact h0 e.symm
      | cons f D =>
        rw [hc] at e p1
        have e' : f.d.id = to := e
        have nk2 := (p1.map (fun x : Dat × Nat => x.1.id)).nodup_iff.1 nk
        rw [List.map_append] at nk2
        refine (List.nodup_append.1 nk2).2.2 to (List.mem_map.2 ⟨_, sub _ hm, d1'⟩) to (List.mem_map.2 ⟨(f.d, n + 1), ?_, e'⟩) rfl
        rw [klsC]; simp
    · cases hc : r.C with
      | nil => rw [hc, klsC] at hm; cases hm
      | cons f D =>
        rw [hc] at hm p1 fin
        rw [klsC] at hm
        rcases List.mem_cons.1 hm with hm | hm
        · simp only [Prod.mk.injEq] at hm
          obtain ⟨e1, e2⟩ := hm
          have hpid : pidOf (f :: D) = to := by show f.d.id = to; rw [← e1]; exact d1'
          have hm2 : (d', n + 1) ∈ kls ls := by
            refine p1.mem_iff.2 (List.mem_append.2 (.inr ?_))
            rw [klsC, e1]; simp
          have := uniq_map nk hm2 d2 (by show d'.id = d.id; rw [d1, d1'])
          simp only [Prod.mk.injEq] at this
          rw [if_pos hpid, ← this.2, e2]
          omega
        · have hm2 : (d', kids'.length) ∈ klsC (f :: D) (n + 1) := by rw [klsC]; exact List.mem_cons.2 (.inr hm)
          refine fin (p1.mem_iff.2 (List.mem_append.2 (.inr hm2))) ?_
          intro e
          have e' : f.d.id = to := e
          have nk2 := (p1.map (fun x : Dat × Nat => x.1.id)).nodup_iff.1 nk
          rw [List.map_append] at nk2
          have nk3 := (List.nodup_append.1 nk2).2.1
          rw [klsC, List.map_cons, List.nodup_cons] at nk3
          exact nk3.1 (List.mem_map.2 ⟨_, hm, by show d'.id = f.d.id; rw [d1', e']⟩)
theorem pid_er : ∀ C : List Frm, pidOf (C.map Frm.er) = idOf C
  | [] => rfl
  | f :: C => rfl
/-- What is within a spot is among all. -/
theorem sps_inner : ∀ (n : Nat) (ls : List Loc), SizeOf.sizeOf ls ≤ n → ∀ (hid : Int) (kb ko dep b o i : Nat) (Y : Spt), Y ∈ sps hid kb ko dep b o i ls → ∀ X ∈ inner Y, X ∈ sps hid kb ko dep b o i ls
  | 0, ls, hs, _, _, _, _, _, _, _, _, _ => by cases ls <;> simp at hs
  | n + 1, [], hs, _, _, _, _, _, _, _, Y, hY => by rw [sps] at hY; cases hY
  | n + 1, .mk d p m q k kids :: ls, hs, hid, kb, ko, dep, b, o, i, Y, hY => by
    simp only [List.cons.sizeOf_spec, Loc.mk.sizeOf_spec] at hs
    intro X hX
    rw [sps] at hY ⊢
    rcases List.mem_cons.1 hY with rfl | hY
    · exact List.mem_cons.2 (.inr (List.mem_append.2 (.inl hX)))
    · rcases List.mem_append.1 hY with hY | hY
      · exact List.mem_cons.2 (.inr (List.mem_append.2 (.inl (sps_inner n kids (by omega) _ _ _ _ _ _ _ Y hY X hX))))
      · exact List.mem_cons.2 (.inr (List.mem_append.2 (.inr (sps_inner n ls (by omega) _ _ _ _ _ _ _ Y hY X hX))))
theorem sps_mid (hid : Int) (kb ko dep b o : Nat) (pre : List Loc) (l : Loc) (post : List Loc) : (⟨hid, kb, ko, dep, pre.length, l, b, o + pre.length * 19⟩ : Spt) ∈ sps hid kb ko dep b o 0 (pre ++ l :: post) := by
  rw [sps_append, Nat.zero_add]
  refine List.mem_append.2 (.inr ?_)
  cases l
  rw [sps]
  simp
theorem ctx_mem (R : Nat) : ∀ (C : List Frm) (h : Hd) (pre : List Loc) (l : Loc) (post : List Loc), sptOf R C h pre.length l ∈ sps 0 R 3 0 (plugH C h).b (plugH C h).o 0 (plugL C h (pre ++ l :: post))
  | [], h, pre, l, post => sps_mid 0 R 3 0 h.b h.o pre l post
  | f :: C, h, pre, l, post => by
    have ih := ctx_mem R C f.h f.pre (.mk f.d f.p f.m f.q h (pre ++ l :: post)) f.post
    refine sps_inner _ _ (Nat.le_refl _) _ _ _ _ _ _ _ _ ih _ ?_
    exact sps_mid f.d.id f.h.b (f.h.o + f.pre.length * 19 + 18) (C.length + 1) h.b h.o pre l post
theorem ids_sps : ∀ (n : Nat) (ls : List Loc), SizeOf.sizeOf ls ≤ n → ∀ (hid : Int) (kb ko dep b o i : Nat), (sps hid kb ko dep b o i ls).map (fun X => X.l.dat.id) = (dats (er ls)).map (·.id)
  | 0, ls, hs, _, _, _, _, _, _, _ => by cases ls <;> simp at hs
  | n + 1, [], hs, _, _, _, _, _, _, _ => by rw [sps, er, dats]; rfl
  | n + 1, .mk d p m q k kids :: ls, hs, hid, kb, ko, dep, b, o, i => by
    simp only [List.cons.sizeOf_spec, Loc.mk.sizeOf_spec] at hs
    rw [sps, er, dats, List.map_cons, List.map_append, List.map_cons, List.map_append, ids_sps n kids (by omega), ids_sps n ls (by omega)]
    rfl
/-- Two homes with one number are one. -/
theorem home_one {z : Int} {R : Nat} {C C2 : List Frm} {h h2 : Hd} {ls ls2 : List Loc} (G : Good z (er (plugL C h ls))) (e1 : plugH C2 h2 = plugH C h) (e2 : plugL C2 h2 ls2 = plugL C h ls) (e : idOf C2 = idOf C) : kbOf R C2 = kbOf R C ∧ koOf C2 = koOf C := by
  have nz : ∀ (f : Frm) (D : List Frm) (hh : Hd) (l3 : List Loc), plugL (f :: D) hh l3 = plugL C h ls → 1 ≤ idOf (f :: D) := by
    intro f D hh l3 e3
    have hm : f.d ∈ dats (er (plugL C h ls)) := by
      rw [← e3, er_plug]
      refine (dats_plug _ _).mem_iff.2 (List.mem_append.2 (.inr ?_))
      rw [List.map_cons, datsC]
      exact List.mem_cons.2 (.inl rfl)
    exact (G.range _ hm).1
  cases C with
  | nil =>
    cases C2 with
    | nil => exact ⟨rfl, rfl⟩
    | cons f D =>
      have := nz f D h2 ls2 e2
      rw [e] at this
      exact absurd this (by show ¬ (1 : Int) ≤ 0; omega)
  | cons f D =>
    cases C2 with
    | nil =>
      have := nz f D h ls rfl
      rw [← e] at this
      exact absurd this (by show ¬ (1 : Int) ≤ 0; omega)
    | cons f2 D2 =>
      have m1 := ctx_mem R D f.h f.pre (.mk f.d f.p f.m f.q h ls) f.post
      have m2 := ctx_mem R D2 f2.h f2.pre (.mk f2.d f2.p f2.m f2.q h2 ls2) f2.post
      have m2' : sptOf R D2 f2.h f2.pre.length (.mk f2.d f2.p f2.m f2.q h2 ls2) ∈ sps 0 R 3 0 (plugH D f.h).b (plugH D f.h).o 0 (plugL D f.h (f.pre ++ .mk f.d f.p f.m f.q h ls :: f.post)) := by
        have e1' : plugH D2 f2.h = plugH D f.h := e1
        have e2' : plugL D2 f2.h (f2.pre ++ .mk f2.d f2.p f2.m f2.q h2 ls2 :: f2.post) = plugL D f.h (f.pre ++ .mk f.d f.p f.m f.q h ls :: f.post) := e2
        rw [← e1', ← e2']
        exact m2
      have nd : ((sps 0 R 3 0 (plugH D f.h).b (plugH D f.h).o 0 (plugL D f.h (f.pre ++ .mk f.d f.p f.m f.q h ls :: f.post))).map (fun X => X.l.dat.id)).Nodup := by
        rw [ids_sps _ _ (Nat.le_refl _)]
        exact G.nodup
      have := uniq_map nd m2' m1 e
      unfold sptOf at this
      simp only [Spt.mk.injEq] at this
      obtain ⟨-, -, -, -, -, -, q1, q2⟩ := this
      refine ⟨q1, ?_⟩
      show f2.h.o + f2.pre.length * 19 + 18 = f.h.o + f.pre.length * 19 + 18
      omega
/-- A group's number lies in its cells. -/
theorem Whole.idAt {B : Nat} {w : World} {R : Nat} {x y z : Int} {f : Frm} {C : List Frm} {h : Hd} {ls : List Loc} (W : Whole B w R x y z (plugH (f :: C) h) (plugL (f :: C) h ls)) : w.cell? ⟨kbOf R (f :: C), koOf (f :: C) - 18, none⟩ = some (.int .i64 (idOf (f :: C))) ∧ kbOf R (f :: C) ≠ R := by
  obtain ⟨-, -, c0⟩ := W.ctx
  have out := W.out'
  rw [CtxOwn] at c0
  have r := c0.1
  obtain ⟨eb, -⟩ := r.blk_eq (by have := row_pos f h []; omega)
  refine ⟨?_, fun e => out ?_⟩
  · have hn : 0 < f.h.n := by
      have h1 := r.1.1
      have h2 := row_pos f h []
      rcases Nat.eq_zero_or_pos f.h.n with e | e
      · rw [e] at h1; omega
      · exact e
    obtain ⟨g, c, cur, e, hB, hh, hc, hs, ht⟩ := r.some hn
    have eb2 : f.h.b = g := by rw [e]; rfl
    have eo : f.h.o = 0 := by rw [e]; rfl
    have h3 := flat_at (f.row h []) f.pre.length (.mk f.d f.p f.m f.q h []) (by unfold Frm.row; rw [List.getElem?_append_right (Nat.le_refl _), Nat.sub_self]; rfl) 0 (.int .i64 f.d.id) rfl
    have h4 := row_pos f h []
    have h5 : (flat (f.row h [])).length = f.h.n * 19 := r.1.1
    have hko : koOf (f :: C) - 18 = f.pre.length * 19 + 0 := by simp [koOf, eo]
    have hkb : kbOf R (f :: C) = g := eb2
    rw [hko, hkb]
    rw [cell_of_row _ _ _ _ _ _ hh, ← Array.getElem?_toList]
    rw [← ht, List.getElem?_take_of_lt (by omega)] at h3
    exact h3
  · have e' : f.h.b = R := e
    rw [← e']
    refine List.mem_append.2 (.inr ?_)
    rw [outs, Frm.rest, eb]
    simp
/-- Two homes at one place have one number. -/
theorem home_id {B : Nat} {w : World} {R : Nat} {x y z : Int} {C C2 : List Frm} {h h2 : Hd} {ls ls2 : List Loc} (W : Whole B w R x y z (plugH C h) (plugL C h ls)) (e1 : plugH C2 h2 = plugH C h) (e2 : plugL C2 h2 ls2 = plugL C h ls) (k1 : kbOf R C2 = kbOf R C) (k2 : koOf C2 = koOf C) : idOf C2 = idOf C := by
  cases C with
  | nil =>
    cases C2 with
    | nil => rfl
    | cons f D =>
      rw [← e1, ← e2] at W
      exact absurd k1 W.idAt.2
  | cons f D =>
    cases C2 with
    | nil => exact absurd k1.symm W.idAt.2
    | cons f2 D2 =>
      have a := W.idAt.1
      rw [← e1, ← e2] at W
      have b := W.idAt.1
      rw [k1, k2, a] at b
      simp only [Option.some.injEq, Value.int.injEq, true_and] at b
      exact b.symm
end Go.Proofs.YtfcpbpfemmdklaaGreat.Tr
