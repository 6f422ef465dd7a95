/- An edit as the document has it (scumblemade.Edit). -/
import Derived.Test.YtcdhpidglchinaaW
import Derived.Test.YtcdhpidglchinaaLD
import Derived.Test.YtcdhpidglchinaaL
namespace Go.Proofs.Ytcdhpidglchinaa
open Go.RowKit Go.Lib Pk
set_option linter.unusedSimpArgs false
set_option linter.unusedVariables false

theorem infoRPt : (Try.prog.info? 59).map (fun i => (i.zero, i.size, i.bytes)) = some (some (.agg #[.int .i64 0, .int .i64 0]), 2, 16) := by kernel_rfl
theorem szREd (e : PEd) (p s q : Hd) : (Try.prog.info? 39).map (·.size) = some (edCells e p s q).toArray.size := sizeREd
theorem set11e (e : PEd) (p s q d : Hd) : (edCells e p s q).toArray.setIfInBounds 11 (.slice d.a d.n d.c) = (edCells e p d q).toArray := rfl
theorem take_pts {l : List (Int × Int)} {k : Nat} {x : Int × Int} (h : l[k]? = some x) : pts (l.take (k + 1)) = pts (l.take k) ++ pts [x] := by
  rw [List.take_add_one, h, ← pts_append]
  rfl
/-- What is told: the same edit, its points in a row of the call's own. -/
def MadeE (w : World) (e : PEd) (p q : Hd) (en : Ending) (w' : World) : Prop :=
  ∃ s' : Hd, en = .returned (.agg (edCells e p s' q).toArray) ∧ EdIn w' e p s' q ∧ Keeps none' w w'
/-- The document's edit under way. -/
structure Mk (w wr : World) (R O : Nat) (e : PEd) (p q : Hd) (k : Nat) (hd : Hd) : Prop where
  eb : Eb wr 39 O e p hd q
  own : wr.ownsRow (O + 1) 59 2 (.slice hd.a hd.n hd.c) hd.n (pts (e.s.take k))
  keep : Keeps none' w wr
  zero : wr.heap[R]? = some (.cells Z19 39 (0, 0))
theorem Mk.step {w wr wc : World} {R O : Nat} {e : PEd} {p q : Hd} {k : Nat} {hd : Hd} {x : Int × Int} {aa : Option Addr} {n cap : Nat} (h : Mk w wr R O e p q k hd) (hx : e.s[k]? = some x) (hR : R < O) (hw : w.heap.size ≤ O) {wb : World} (kb : Keeps none' wr wb)
    (ho : wc.ownsRow (O + 1) 59 2 (.slice aa n cap) n (pts (e.s.take k) ++ pts [x])) (hg : wb.grownBy wc (Value.slice hd.a hd.n hd.c).ownBlock) : Mk w (wc.setCell ⟨O, 11, none⟩ (.slice aa n cap)) R O e p q (k + 1) ⟨aa, n, cap⟩ := by
  have hb := fun g e => (own_lt h.own g e).1
  have kg : Keeps (fun q => some q = (Value.slice hd.a hd.n hd.c).ownBlock) wb wc := (Keeps.refl _ _).grown hg (fun q _ e => e.symm)
  have ebc : Eb wc 39 O e p hd q := (h.eb.keep kb (fun x => x)).keep kg (fun x => by have := hb O x.symm; omega)
  refine ⟨?_, ?_, ?_, ?_⟩
  · unfold Eb
    rw [block_set ebc, ← set11e e p hd q ⟨aa, n, cap⟩]
  · rw [take_pts hx]
    refine own_kept ho (fun g hgg => Below.heap_setCell _ _ _ _ (fun e => by have := (own_lt ho g hgg).1; simp only at e; omega))
  · exact ((h.keep.next kb).grown hg (fun g hq e => by have := hb g e; omega)).trans (keeps_at wc O 11 _) (fun i hi x => by omega)
  · refine (Below.heap_setCell _ _ _ _ (by simp only; omega)).trans ?_
    exact (kg.block R (Nat.lt_of_lt_of_le (lt_of_block h.zero) kb.size) (fun x => by have := hb R x.symm; omega)).trans ((kb.later R (lt_of_block h.zero)).trans h.zero)
set_option maxRecDepth 100000 in
set_option maxHeartbeats 3200000 in
theorem MEdit_any (w : World) (e : PEd) (p s q : Hd) (hi : EdIn w e p s q) (hl : s.n ≤ 100000) :
    Calls Try.prog 12 #[edV e p s q] w (MadeE w e p q) := by
  obtain ⟨i0, hi0, hz0, hz1, hz2⟩ := info_parts infoRPt
  obtain ⟨u, hu⟩ : ∃ u, u = (w.alloc (.cells (edCells e p s q).toArray 27)).alloc (.cells Z19 39) := ⟨_, rfl⟩
  have K0 : Keeps none' w u := by rw [hu]; exact ((Keeps.refl none' w).alloc _).alloc _
  have hsz : u.heap.size = w.heap.size + 2 := by rw [hu]; simp
  have hE : Eb u 27 w.heap.size e p s q := by
    rw [hu]
    exact (Below.heap_alloc (w.alloc (.cells (edCells e p s q).toArray 27)) _ _ (by simp)).trans (heap_alloc_new w _)
  have hR : u.heap[w.heap.size + 1]? = some (.cells Z19 39 (0, 0)) := by
    have := heap_alloc_new (w.alloc (.cells (edCells e p s q).toArray 27)) (.cells Z19 39)
    rw [hu]
    simpa using this
  obtain ⟨E, hEE⟩ : ∃ E, E = w.heap.size := ⟨_, rfl⟩
  obtain ⟨R, hRR⟩ : ∃ R, R = w.heap.size + 1 := ⟨_, rfl⟩
  rw [← hEE] at hE
  rw [← hRR] at hR
  have hs : e.s.length = s.n := by have := hi.s.len; rw [pts_length] at this; omega
  have PT := Lib.hid (fun (w1 : World) (k : Keeps none' w w1) => hi.s.later k)
  have HI := Lib.hid hi
  have HS := Lib.hid hs
  have E0 := Lib.hid hE
  have KK := Lib.hid (And.intro K0 (And.intro hR (And.intro hEE (And.intro hRR hsz))))
  have c0 := hE.c0
  have c1 := hE.c1
  have c2 := hE.c2
  have c3 := hE.c3
  have c4 := hE.c4
  have c5 := hE.c5
  have c6 := hE.c6
  have c7 := hE.c7
  have c8 := hE.c8
  have c9 := hE.c9
  have c10 := hE.c10
  have c11 := hE.c11
  have c12 := hE.c12
  have c13 := hE.c13
  have c14 := hE.c14
  have c15 := hE.c15
  have c16 := hE.c16
  have c17 := hE.c17
  have c18 := hE.c18
  have sz := szREd
  have ZB := Lib.hid (fun (w1 : World) => heap_alloc_new w1 (.cells #[.int .i64 0, .int .i64 0, .int .i64 0, .int .i64 0, .int .i64 0, .int .i64 0, .int .i64 0, .int .i64 0, .int .i64 0, .int .i64 0, .slice none 0 0, .slice none 0 0, .int .i64 0, .int .i64 0, .int .i64 0, .int .i64 0, .int .i64 0, .int .i64 0, .slice none 0 0] 39))
  have hz : ((w.alloc (.cells #[.int .i64 e.kind, .int .i64 e.id, .int .i64 e.to_, .int .i64 e.at_, .int .i64 e.n, .int .i64 e.m, .int .i64 e.x, .int .i64 e.y, .int .i64 e.w, .int .i64 e.h, .slice p.a p.n p.c, .slice s.a s.n s.c, .int .i64 e.ma, .int .i64 e.mb, .int .i64 e.mc, .int .i64 e.md, .int .i64 e.me, .int .i64 e.mf, .slice q.a q.n q.c] 27)).alloc (.cells #[.int .i64 0, .int .i64 0, .int .i64 0, .int .i64 0, .int .i64 0, .int .i64 0, .int .i64 0, .int .i64 0, .int .i64 0, .int .i64 0, .slice none 0 0, .slice none 0 0, .int .i64 0, .int .i64 0, .int .i64 0, .int .i64 0, .int .i64 0, .int .i64 0, .slice none 0 0] 39)) = u := by rw [hu]; rfl
  have ST := Lib.hid (fun (w2 : World) (hw : w2 = (u.alloc (.cells #[.int .i64 0, .int .i64 0, .int .i64 0, .int .i64 0, .int .i64 0, .int .i64 0, .int .i64 0, .int .i64 0, .int .i64 0, .int .i64 0, .slice none 0 0, .slice none 0 0, .int .i64 0, .int .i64 0, .int .i64 0, .int .i64 0, .int .i64 0, .int .i64 0, .slice none 0 0] 39)).setRow u.heap.size (edCells e p Hd.nil q).toArray) => show Mk w w2 R u.heap.size e p q 0 Hd.nil ∧ Eb w2 27 E e p s q from by
    have kk : Keeps none' u w2 := by rw [hw]; exact ((Keeps.refl none' u).alloc _).trans (keeps_row _ _ _) (fun i hi x => by omega)
    have hb : w2.heap[u.heap.size]? = some (.cells (edCells e p Hd.nil q).toArray 39 (0, 0)) := by rw [hw]; exact setRow_heap _ _ _ _ _ _ (heap_alloc_new u _)
    exact ⟨⟨hb, ⟨rfl, .inl ⟨rfl, rfl⟩⟩, K0.next kk, (kk.later R (lt_of_block hR)).trans hR⟩, hE.keep kk (fun x => x)⟩)
  clear hi hE hR K0 hs hu hsz
  unfold edV edCells
  go_enter Try.func12, Try.ntmps12
  go_upto_region 1 with (fail)
  rw [← hRR, ← hEE]
  clear hz hEE hRR
  go_wp2_with (refine wpList_store_row rfl 39 _ _ rfl u.heap.size (edCells e p Hd.nil q).toArray rfl rfl 39 _ (ZB.out u) (sz e p Hd.nil q) rfl (ed_all _ _ _ _) ?_; obtain ⟨w2, hw⟩ : ∃ w2, w2 = (u.alloc (.cells #[.int .i64 0, .int .i64 0, .int .i64 0, .int .i64 0, .int .i64 0, .int .i64 0, .int .i64 0, .int .i64 0, .int .i64 0, .int .i64 0, .slice none 0 0, .slice none 0 0, .int .i64 0, .int .i64 0, .int .i64 0, .int .i64 0, .int .i64 0, .int .i64 0, .slice none 0 0] 39)).setRow u.heap.size (edCells e p Hd.nil q).toArray := ⟨_, rfl⟩; rw [← hw]; obtain ⟨m2, b2⟩ := ST.out w2 hw; have M2 := Lib.hid m2; have e11 := b2.c11; clear hw m2 b2)
  obtain ⟨O, hO⟩ : ∃ O, O = u.heap.size := ⟨_, rfl⟩
  rw [← hO] at M2
  rw [← hO]
  have HO := Lib.hid hO
  clear hO e11 c0 c1 c2 c3 c4 c5 c6 c7 c8 c9 c10 c11 c12 c13 c14 c15 c16 c17 c18
  go_loopw [36] (fun v wr => ∃ (k : Nat) (hd : Hd), k ≤ s.n ∧ v = .int .i64 k ∧ hd.n = k ∧ Mk w wr R O e p q k hd) (fun v _ => s.n - (intOf v).toNat)
  case atStart => exact ⟨0, Hd.nil, Nat.zero_le _, rfl, rfl, M2.out⟩
  case round =>
    obtain ⟨k, ⟨a1, m1, c1⟩, hk, rfl, hm, hmk⟩ := hrel
    simp only at hm
    subst hm
    have HM := Lib.hid hmk
    clear hmk
    by_cases hlt : m1 < s.n
    · obtain ⟨pt, hx⟩ : ∃ x, e.s[m1]? = some x := ⟨_, List.getElem?_eq_getElem (by have := HS.out; omega)⟩
      obtain ⟨b, off, eb, _, d0, d1⟩ := (PT.out wr HM.out.keep).two hx
      obtain ⟨x, y⟩ := pt
      simp only at d0 d1
      have HX := Lib.hid hx
      have EB := Lib.hid eb
      rw [eb]
      have ka := (Keeps.refl none' wr).alloc (.cells #[.int .i64 x, .int .i64 y] 60)
      have c11 := ka.cell HM.out.eb.c11
      have kb := ka.alloc (.cells #[.int .i64 x, .int .i64 y] 59)
      have KB := Lib.hid kb
      have NW := Lib.hid (show Cells 2 ((wr.alloc (.cells #[.int .i64 x, .int .i64 y] 60)).alloc (.cells #[.int .i64 x, .int .i64 y] 59)) ⟨some ⟨wr.heap.size + 1, 0, none⟩, 1, 1⟩ (pts [(x, y)]) from by
        have := cells_new 2 (wr.alloc (.cells #[.int .i64 x, .int .i64 y] 60)) #[.int .i64 x, .int .i64 y] 59 1 1 (pts [(x, y)]) rfl rfl (Nat.le_refl _) (pts_one _)
        simpa using this)
      have OW := Lib.hid (own_kept HM.out.own (fun g hg => kb.later g (own_lt HM.out.own g hg).2))
      have szb : O + 1 ≤ ((wr.alloc (.cells #[.int .i64 x, .int .i64 y] 60)).alloc (.cells #[.int .i64 x, .int .i64 y] 59)).heap.size := Nat.le_trans (lt_of_block HM.out.eb) kb.size
      have P2 := Lib.hid (fun (wc : World) (hg : ((wr.alloc (.cells #[.int .i64 x, .int .i64 y] 60)).alloc (.cells #[.int .i64 x, .int .i64 y] 59)).grownBy wc (Value.slice a1 m1 c1).ownBlock) => show Eb wc 39 O e p ⟨a1, m1, c1⟩ q from
        (HM.out.eb.keep kb (fun x => x)).keep ((Keeps.refl (fun q => some q = (Value.slice a1 m1 c1).ownBlock) _).grown hg (fun q _ e => e.symm)) (fun x => by have := (own_lt HM.out.own O x.symm).1; omega))
      clear hx eb ka kb
      go_wp2_with (at_builtin; go_loud (refine wpList_append_row rfl 36 59 _ _ rfl i0 _ 2 16 Try.underlying36 hi0 hz0 hz1 hz2 rfl (by decide) (by decide) (O + 1) m1 (.slice a1 m1 c1) _ rfl OW.out ⟨some ⟨wr.heap.size + 1, 0, none⟩, 1, 1⟩ _ rfl NW.out (by omega) (by show 1 ≤ _; omega) szb ?_; intro aa cap wc ho hg hat; have bc := P2.out wc hg; have d11 := bc.c11; have f11 := free_at (i := 11) bc; have KC := Lib.hid (And.intro ho hg); clear ho hg hat bc))
      go_roundw
      case rel => exact ⟨m1 + 1, ⟨aa, m1 + 1, cap⟩, by omega, by go_num, rfl, HM.out.step HX.out (by have h1 := KK.out.2.2.2.1; have h2 := KK.out.2.2.2.2; have h3 := HO.out; omega) (by have h2 := KK.out.2.2.2.2; have h3 := HO.out; omega) KB.out KC.out.1 KC.out.2⟩
      case measure => simp [intOf]; omega
    · obtain rfl : m1 = s.n := by omega
      have bO := HM.out.eb
      go_wp2_with (first
        | (refine wpList_load_row rfl 39 _ rfl O rfl 39 (edCells e p ⟨a1, s.n, c1⟩ q).toArray (0, 0) _ HM.out.eb Try.underlying39 rfl (sz e p ⟨a1, s.n, c1⟩ q) ?_)
        | (refine wpList_store_row rfl 39 _ _ rfl R (edCells e p ⟨a1, s.n, c1⟩ q).toArray rfl rfl 39 _ HM.out.zero (sz e p ⟨a1, s.n, c1⟩ q) rfl (ed_all _ _ _ _) ?_))
      refine bodyPost_ret (results_cell_row rfl _ _ R 39 (edCells e p ⟨a1, s.n, c1⟩ q).toArray (0, 0) _ rfl (setRow_heap _ _ _ _ _ _ HM.out.zero) Try.underlying39 rfl (sz e p ⟨a1, s.n, c1⟩ q)) rfl ?_
      have h1 := KK.out.2.2.2.1
      have h2 := KK.out.2.2.2.2
      have h3 := HO.out
      have kr := keeps_row wr R (edCells e p ⟨a1, s.n, c1⟩ q).toArray
      have kall : Keeps none' w (wr.setRow R (edCells e p ⟨a1, s.n, c1⟩ q).toArray) := HM.out.keep.trans kr (fun i hi x => by omega)
      have hh := HI.out.keep kall (fun _ _ x => x)
      have ow := HM.out.own
      have et : e.s.take s.n = e.s := by rw [← HS.out, List.take_length]
      rw [et] at ow
      obtain ⟨cw, lw⟩ := own_cells2 (hd := ⟨a1, s.n, c1⟩) ow (pts_one _)
      exact ⟨⟨a1, s.n, c1⟩, rfl, ⟨hh.p, cw.keep kr (fun x hx hp e => by have := (lw x hx).1; omega), hh.q⟩, kall⟩
end Go.Proofs.Ytcdhpidglchinaa
