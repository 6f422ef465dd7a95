/- The document's form of an edit (its Edit). -/
import Derived.Test.YtcdhpidglchinaaV
import Derived.Test.YtcdhpidglchinaaE
namespace Go.Proofs.Ytcdhpidglchinaa
open Go.RowKit Go.Lib Pk
set_option linter.unusedSimpArgs false
set_option linter.unusedVariables false

/-- A row under way, and the edit that it is made of. -/
structure Out (w wi : World) (E : Nat) (e : PEd) (p s q : Hd) (zs : List Nat) (hd : Hd) : Prop where
  own : wi.ownsRow (E + 1) 5 1 (.slice hd.a hd.n hd.c) hd.n (bys zs)
  len : zs.length = hd.n
  keep : Keeps none' w wi
  eb : Eb wi 39 E e p s q
theorem Out.later {w wi w2 : World} {E : Nat} {e : PEd} {p s q : Hd} {zs : List Nat} {hd : Hd} (h : Out w wi E e p s q zs hd) (k : Keeps none' wi w2) : Out w w2 E e p s q zs hd :=
  ⟨own_kept h.own (fun g hg => k.later g (own_lt h.own g hg).2), h.len, h.keep.next k, h.eb.keep k (fun x => x)⟩
theorem told_cells {w w2 : World} {ys : List Nat} {en : Ending} (h : ToldB w ys en w2) : ∃ h2 : Hd, en = .returned (.slice h2.a h2.n h2.c) ∧ Cells 1 w2 h2 (bys ys) ∧ ys.length = h2.n ∧ Keeps none' w w2 := by
  obtain ⟨h2, he, hl, ho, hk⟩ := h
  exact ⟨h2, he, (own_cells2 ho (bys_one _)).1, hl, hk⟩
theorem Out.app {w w2 w3 : World} {E : Nat} {e : PEd} {p s q : Hd} {zs ys : List Nat} {hd h2 : Hd} {aa : Option Addr} {cap : Nat} (h : Out w w2 E e p s q zs hd) (hw : w.heap.size ≤ E) (hl : ys.length = h2.n)
    (ho : w3.ownsRow (E + 1) 5 1 (.slice aa (hd.n + h2.n) cap) (hd.n + h2.n) (bys zs ++ bys ys)) (hg : w2.grownBy w3 (Value.slice hd.a hd.n hd.c).ownBlock) : Out w w3 E e p s q (zs ++ ys) ⟨aa, hd.n + h2.n, cap⟩ := by
  have hb := fun g e => (own_lt h.own g e).1
  refine ⟨by rw [bys_append]; exact ho, by rw [List.length_append, h.len, hl], h.keep.grown hg (fun g hq e => by have := hb g e; omega), ?_⟩
  exact (hg.block E h.eb.lt (fun x => by have := hb E x.symm; omega)).trans h.eb
theorem own_low2 {w : World} {B B' T k n : Nat} {v : Value} {vs : List Value} (h : w.ownsRow B T k v n vs) (hB : B' ≤ B) : w.ownsRow B' T k v n vs := by
  obtain ⟨h1, h2⟩ := h
  refine ⟨h1, ?_⟩
  rcases h2 with h2 | ⟨g, cap, cur, rfl, hg, hh, r⟩
  · exact Or.inl h2
  · exact Or.inr ⟨g, cap, cur, rfl, by omega, hh, r⟩
set_option maxRecDepth 100000 in
set_option maxHeartbeats 3200000 in
theorem REdit_any (w : World) (e : PEd) (p s q : Hd) (hi : EdIn w e p s q) (ok : EdOk e.ed) (hl : e.p.length + e.s.length + e.q.length ≤ 10000) :
    Calls Try.prog 11 #[edV e p s q] w (ToldB w (putE e.ed)) := by
  obtain ⟨i0, hi0, hz0, hz1, hz2⟩ := info_parts info5
  obtain ⟨E, hE⟩ : ∃ E, E = w.heap.size := ⟨_, rfl⟩
  obtain ⟨u, hu⟩ : ∃ u, u = w.alloc (.cells (edCells e p s q).toArray 39) := ⟨_, rfl⟩
  have K0 : Keeps none' w u := by rw [hu]; exact (Keeps.refl none' w).alloc _
  have E0 : Eb u 39 E e p s q := by rw [hu, hE]; exact Eb.new w _ e p s q
  have hsz : u.heap.size = E + 1 := by rw [hu, hE]; simp
  obtain ⟨ok10, okp, oks, ok6, okq⟩ := ok
  simp only [PEd.ed] at ok10 okp oks ok6 okq
  have l1 : (e.ten.flatMap put).length ≤ 100 := by have := flat_short ok10.1; rw [ok10.2] at this; omega
  have l2 := putL_short okp.1 (by omega)
  have l3 := flatP_short oks.1
  have l4 : (e.six.flatMap put).length ≤ 60 := by have := flat_short ok6.1; rw [ok6.2] at this; omega
  have l5 := putL_short okq.1 (by omega)
  have hs : e.s.length = s.n := by have := hi.s.len; rw [pts_length] at this; omega
  have fs : Fit (s.n : Int) := ⟨by omega, by omega⟩
  have l6 := put_short fs
  have C1 := Lib.hid (show Calls Try.prog 20 #[.slice (some ⟨w.heap.size + 1, 0, none⟩) 10 10] (u.alloc (.cells (ints e.ten).toArray 3)) (ToldB (u.alloc (.cells (ints e.ten).toArray 3)) (e.ten.flatMap put)) from by
    have c := cells_new 1 u (ints e.ten).toArray 3 10 10 (ints e.ten) rfl (by rw [ints_length]; exact ok10.2) (Nat.le_refl _) (ints_one _)
    rw [hsz, hE] at c
    exact Nums_any _ ⟨some ⟨w.heap.size + 1, 0, none⟩, 10, 10⟩ e.ten c ok10.1 (by rw [ok10.2]; omega))
  have C2 := Lib.hid (fun (w1 : World) (k : Keeps none' w w1) => List_any w1 p e.p (hi.p.later k) okp.1 (by omega))
  have C3 := Lib.hid (fun (w1 : World) => Num_any w1 (s.n : Int) fs)
  have C4 := Lib.hid (fun (w1 : World) (b : Nat) (x y : Int) (k : Nat) (hx : e.s[k]? = some (x, y)) (hc : Cells 1 w1 ⟨some ⟨b, 0, none⟩, 2, 2⟩ (ints [x, y])) => show Calls Try.prog 20 #[.slice (some ⟨b, 0, none⟩) 2 2] w1 (ToldB w1 (putPt (x, y))) from by
    have fx := oks.1 _ (at_mem hx)
    have := Nums_any w1 ⟨some ⟨b, 0, none⟩, 2, 2⟩ [x, y] hc (by intro a ha; simp at ha; rcases ha with rfl | rfl; exact fx.1; exact fx.2) (by simp)
    have e2 : putPt (x, y) = [x, y].flatMap put := by simp [putPt]
    rw [e2]
    exact this)
  have C5 := Lib.hid (fun (w1 : World) (b : Eb w1 39 E e p s q) => show Calls Try.prog 20 #[.slice (some ⟨E, 12, none⟩) 6 6] w1 (ToldB w1 (e.six.flatMap put)) from Nums_any w1 ⟨some ⟨E, 12, none⟩, 6, 6⟩ e.six b.six ok6.1 (by rw [ok6.2]; omega))
  have C6 := Lib.hid (fun (w1 : World) (k : Keeps none' w w1) => List_any w1 q e.q (hi.q.later k) okq.1 (by omega))
  have PT := Lib.hid (fun (w1 : World) (k : Keeps none' w w1) => hi.s.later k)
  have HH := Lib.hid (And.intro hs (And.intro hl oks.1))
  have LL := Lib.hid (And.intro l1 (And.intro l2 (And.intro l3 (And.intro l4 (And.intro l5 l6)))))
  have KE := Lib.hid (And.intro K0 (And.intro E0 (And.intro hE hsz)))
  have hw2 : u.alloc (.cells (ints e.ten).toArray 3) = (w.alloc (.cells #[.int .i64 e.kind, .int .i64 e.id, .int .i64 e.to_, .int .i64 e.at_, .int .i64 e.n, .int .i64 e.m, .int .i64 e.x, .int .i64 e.y, .int .i64 e.w, .int .i64 e.h, .slice p.a p.n p.c, .slice s.a s.n s.c, .int .i64 e.ma, .int .i64 e.mb, .int .i64 e.mc, .int .i64 e.md, .int .i64 e.me, .int .i64 e.mf, .slice q.a q.n q.c] 39)).alloc (.cells #[.int .i64 e.kind, .int .i64 e.id, .int .i64 e.to_, .int .i64 e.at_, .int .i64 e.n, .int .i64 e.m, .int .i64 e.x, .int .i64 e.y, .int .i64 e.w, .int .i64 e.h] 3) := by rw [hu]; rfl
  rw [hw2] at C1
  have hsn : s.n ≤ 10000 := by omega
  have FIRST := Lib.hid (fun (w1 : World) (h1 : Hd) (en : Ending) (t : ToldB ((w.alloc (.cells #[.int .i64 e.kind, .int .i64 e.id, .int .i64 e.to_, .int .i64 e.at_, .int .i64 e.n, .int .i64 e.m, .int .i64 e.x, .int .i64 e.y, .int .i64 e.w, .int .i64 e.h, .slice p.a p.n p.c, .slice s.a s.n s.c, .int .i64 e.ma, .int .i64 e.mb, .int .i64 e.mc, .int .i64 e.md, .int .i64 e.me, .int .i64 e.mf, .slice q.a q.n q.c] 39)).alloc (.cells #[.int .i64 e.kind, .int .i64 e.id, .int .i64 e.to_, .int .i64 e.at_, .int .i64 e.n, .int .i64 e.m, .int .i64 e.x, .int .i64 e.y, .int .i64 e.w, .int .i64 e.h] 3)) (e.ten.flatMap put) en w1) => show ∃ h1 : Hd, en = .returned (.slice h1.a h1.n h1.c) ∧ h1.n ≤ 100 ∧ Out w w1 E e p s q (e.ten.flatMap put) h1 from by
    rw [← hw2] at t
    obtain ⟨h1, he, hl, ho, hk⟩ := t
    have ka := ((Keeps.refl none' u).alloc (.cells (ints e.ten).toArray 3)).next hk
    exact ⟨h1, he, by rw [← hl]; exact l1, own_low2 ho (by simp; omega), hl, K0.next ka, E0.keep ka (fun x => x)⟩)
  clear hi ok10 okp oks ok6 okq l1 l2 l3 l4 l5 l6 hs fs hl hE hu K0 E0 hsz hw2
  unfold edV edCells
  go_enter Try.func11, Try.ntmps11
  go_upto_region 2 with (go_at_call 20; ((with_reducible refine C1.out.mono ?_); rintro en w1 t1; obtain ⟨h1, rfl, n1, o1⟩ := FIRST.out w1 Hd.nil en t1; have c10 := o1.eb.c10; have O1 := Lib.hid o1; clear t1 o1))
  rw [← KE.out.2.2.1]
  go_wp2_with (first
    | (go_at_call 21; ((with_reducible refine (C2.out _ O1.out.keep).mono ?_); rintro en w2 t2; obtain ⟨h2, rfl, y2, l2, k2⟩ := told_cells t2; have n2 : h2.n ≤ 100010 := (by rw [← l2]; have a := LL.out.2.1; have b := HH.out.2.1; omega); have O2 := Lib.hid (O1.out.later k2); have Y2 := Lib.hid y2; have L2 := Lib.hid l2; clear t2 y2 l2 k2))
    | (at_builtin; go_loud (refine wpList_append_row rfl 29 5 _ _ rfl i0 _ 1 1 Try.underlying29 hi0 hz0 hz1 hz2 rfl (by decide) (by decide) (E + 1) h1.n (.slice h1.a h1.n h1.c) _ rfl O2.out.own h2 _ rfl Y2.out (by omega) (by omega) (lt_of_block O2.out.eb) ?_; intro aa cap w3 ho hg hat; have o := O2.out.app (by rw [KE.out.2.2.1]; exact Nat.le_refl _) L2.out ho hg; have O3 := Lib.hid o; have c11 := o.eb.c11; clear o ho hg hat))
    | (go_at_call 15; ((with_reducible refine (C3.out _).mono ?_); rintro en w4 t4; obtain ⟨h4, rfl, y4, l4, k4⟩ := told_cells t4; have n4 : h4.n ≤ 10 := (by rw [← l4]; exact LL.out.2.2.2.2.2); have O4 := Lib.hid (O3.out.later k4); have Y4 := Lib.hid y4; have L4 := Lib.hid l4; clear t4 y4 l4 k4))
    | (at_builtin; go_loud (refine wpList_append_row rfl 29 5 _ _ rfl i0 _ 1 1 Try.underlying29 hi0 hz0 hz1 hz2 rfl (by decide) (by decide) (E + 1) (h1.n + h2.n) (.slice aa (h1.n + h2.n) cap) _ rfl O4.out.own h4 _ rfl Y4.out (by omega) (by omega) (lt_of_block O4.out.eb) ?_; intro a5 c5 w5 ho hg hat; have o := O4.out.app (by rw [KE.out.2.2.1]; exact Nat.le_refl _) L4.out ho hg; have O5 := Lib.hid o; clear o ho hg hat)))
  have PS := Lib.hid (O5.out)
  obtain ⟨Z1, hZ1⟩ : ∃ Z1, Z1 = (e.ten.flatMap put ++ putL put e.p) ++ put (s.n : Int) := ⟨_, rfl⟩
  rw [← hZ1] at PS
  have Z1L : Z1.length ≤ 200000 := by rw [PS.out.len]; show h1.n + h2.n + h4.n ≤ _; omega
  have HZ := Lib.hid (And.intro hZ1 Z1L)
  clear hZ1 Z1L
  go_loopw [3, 4] (fun o v wr => ∃ (k : Nat) (hd : Hd), k ≤ s.n ∧ v = .int .i64 k ∧ o = .slice hd.a hd.n hd.c ∧ Out w wr E e p s q (Z1 ++ (e.s.take k).flatMap putPt) hd) (fun _ v _ => s.n - (intOf v).toNat)
  case atStart => exact ⟨0, ⟨a5, h1.n + h2.n + h4.n, c5⟩, Nat.zero_le _, rfl, rfl, by simpa using PS.out⟩
  case round =>
    obtain ⟨k, ⟨a6, m6, c6⟩, hk, rfl, rfl, ho⟩ := hrel
    have O6 := Lib.hid ho
    have m6l : m6 ≤ 500000 := by
      have := ho.len
      rw [List.length_append] at this
      have h2 := flatP_take_short HH.out.2.2 k (by have := HH.out.1; omega)
      have h3 := HZ.out.2
      simp only at this
      omega
    have c11 := ho.eb.c11
    clear ho
    simp only
    by_cases hlt : k < s.n
    · obtain ⟨pt, hx⟩ : ∃ x, e.s[k]? = some x := ⟨_, List.getElem?_eq_getElem (by have := HH.out.1; omega)⟩
      obtain ⟨b, off, eb, _, d0, d1⟩ := (PT.out wr O6.out.keep).two hx
      obtain ⟨x, y⟩ := pt
      simp only at d0 d1
      rw [eb] at c11
      have HX := Lib.hid hx
      have EB := Lib.hid eb
      clear hx eb
      go_wp2_with fail
      have NW := Lib.hid (show Cells 1 (wr.alloc (.cells #[.int .i64 x, .int .i64 y] 3)).drew ⟨some ⟨wr.heap.size, 0, none⟩, 2, 2⟩ (ints [x, y]) from (cells_new 1 wr #[.int .i64 x, .int .i64 y] 3 2 2 (ints [x, y]) rfl rfl (Nat.le_refl _) (ints_one _)).later ((Keeps.refl none' _).drew))
      have O7 := Lib.hid (O6.out.later (show Keeps none' wr (wr.alloc (.cells #[.int .i64 x, .int .i64 y] 3)).drew from ((Keeps.refl none' wr).alloc _).drew))
      have ps := Lib.hid (putPt_short (HH.out.2.2 _ (at_mem HX.out)))
      go_region_law (first
        | (refine step_append_row (by rfl) 29 5 (.tmp 45) (.tmp 59) (by rfl) i0 _ 1 1 Try.underlying29 hi0 hz0 hz1 hz2 rfl (by decide) (by decide) (E + 1) m6 (.slice a6 m6 c6) _ (by rfl) O8.out.own h8 _ (by rfl) Y8.out (by omega) (by omega) (lt_of_block O8.out.eb) ?_; intro aa cap w9 ho hg hat)
        | (go_simp; ((with_reducible refine (C4.out _ _ x y k HX.out NW.out).mono ?_); rintro en w8 t8; obtain ⟨h8, rfl, y8, l8, k8⟩ := told_cells t8; have n8 : h8.n ≤ 20 := (by rw [← l8]; exact ps.out); have O8 := Lib.hid (O7.out.later k8); have Y8 := Lib.hid y8; have L8 := Lib.hid l8; clear t8 y8 l8 k8)))
      all_goals
        have O9 := Lib.hid (O8.out.app (by rw [KE.out.2.2.1]; exact Nat.le_refl _) L8.out ho hg)
        clear ho hg hat
        go_wp2_with fail
        go_roundw
        case rel =>
          refine ⟨k + 1, ⟨aa, m6 + h8.n, cap⟩, by omega, by go_num, rfl, ?_⟩
          have := O9.out
          rw [List.append_assoc, ← take_flatP HX.out] at this
          exact this
        case measure => simp [intOf]; omega
    · obtain rfl : k = s.n := by omega
      have ef : (e.s.take s.n).flatMap putPt = e.s.flatMap putPt := by rw [← HH.out.1, List.take_length]
      rw [ef] at O6
      clear ef
      go_wp2_with (first
        | (go_at_call 20; ((with_reducible refine (C5.out _ O6.out.eb).mono ?_); rintro en w8 t8; obtain ⟨h8, rfl, y8, l8, k8⟩ := told_cells t8; have n8 : h8.n ≤ 60 := (by rw [← l8]; exact LL.out.2.2.2.1); have O8 := Lib.hid (O6.out.later k8); have Y8 := Lib.hid y8; have L8 := Lib.hid l8; clear t8 y8 l8 k8))
        | (at_builtin; refine wpList_append_row rfl 29 5 _ _ rfl i0 _ 1 1 Try.underlying29 hi0 hz0 hz1 hz2 rfl (by decide) (by decide) (E + 1) m6 (.slice a6 m6 c6) _ rfl O8.out.own h8 _ rfl Y8.out (by omega) (by omega) (lt_of_block O8.out.eb) ?_; intro a9 c9 w9 ho hg hat; have o := O8.out.app (by rw [KE.out.2.2.1]; exact Nat.le_refl _) L8.out ho hg; have O9 := Lib.hid o; have c18 := o.eb.c18; clear o ho hg hat)
        | (go_at_call 21; ((with_reducible refine (C6.out _ O9.out.keep).mono ?_); rintro en w10 t10; obtain ⟨h10, rfl, y10, l10, k10⟩ := told_cells t10; have n10 : h10.n ≤ 100010 := (by rw [← l10]; have a := LL.out.2.2.2.2.1; have b := HH.out.2.1; omega); have O10 := Lib.hid (O9.out.later k10); have Y10 := Lib.hid y10; have L10 := Lib.hid l10; clear t10 y10 l10 k10))
        | (at_builtin; refine wpList_append_row rfl 29 5 _ _ rfl i0 _ 1 1 Try.underlying29 hi0 hz0 hz1 hz2 rfl (by decide) (by decide) (E + 1) (m6 + h8.n) (.slice a9 (m6 + h8.n) c9) _ rfl O10.out.own h10 _ rfl Y10.out (by omega) (by omega) (lt_of_block O10.out.eb) ?_; intro a11 c11' w11 ho hg hat; have O11 := Lib.hid (O10.out.app (by rw [KE.out.2.2.1]; exact Nat.le_refl _) L10.out ho hg); clear ho hg hat))
      go_ret
      have o := O11.out
      have ez : ((Z1 ++ e.s.flatMap putPt) ++ e.six.flatMap put) ++ putL put e.q = putE e.ed := by
        rw [HZ.out.1]
        show _ = e.ten.flatMap put ++ (putL put e.p ++ (putL putPt e.s ++ (e.six.flatMap put ++ putL put e.q)))
        unfold putL
        rw [HH.out.1]
        simp only [List.append_assoc]
      rw [ez] at o
      exact ⟨⟨a11, m6 + h8.n + h10.n, c11'⟩, rfl, o.len, own_low2 o.own (by have := KE.out.2.2.1; omega), o.keep⟩
end Go.Proofs.Ytcdhpidglchinaa
