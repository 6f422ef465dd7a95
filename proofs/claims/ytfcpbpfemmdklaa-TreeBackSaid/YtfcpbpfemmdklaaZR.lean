/- TreePaints' walk (5). (printed by genZR.py) -/
import Derived.Test.YtfcpbpfemmdklaaZE
import Derived.Test.YtfcpbpfemmdklaaZM
import Derived.Test.YtfcpbpfemmdklaaZQ
namespace Go.Proofs.Ytfcpbpfemmdklaa
open Go.RowKit Go.Lib
set_option linter.unusedSimpArgs false
set_option linter.unusedVariables false

def pe (x y w h : Int) (p : List Int) : PEd := ⟨4, 1, 0, 0, 0, 0, x, y, w, h, p, [], 0, 0, 0, 0, 0, 0, []⟩
theorem good_one {d : Dat} (hid : d.id = 1) : Good 2 [.mk d []] := ⟨by simp [dats], fun e he => (by
  simp [dats] at he
  subst he
  omega), by simp [pcnt, dats], by omega⟩
def okP (w h x y : Int) (p : List Int) : Bool := formP w h p && (shiftP x && shiftP y)
theorem paint_yes1 {d : Dat} {x y w h : Int} {pix : List Int} (hid : d.id = 1) (hk : d.kind = 0) (ok : okP w h x y pix = true) : paintP [.mk d []] 1 x y w h pix = .ok [.mk (setP d (paintN d.w y x w.toNat pix h.toNat d.p)) []] := by
  rw [paint_one d hid hk]
  unfold okP at ok
  rw [Bool.and_eq_true] at ok
  rw [if_neg (by rw [ok.1]; simp), if_neg (by rw [ok.2]; simp)]
theorem paint_no1 {d : Dat} {x y w h : Int} {pix : List Int} (hid : d.id = 1) (hk : d.kind = 0) (ok : okP w h x y pix = false) : ∃ f, f ≠ 0 ∧ paintP [.mk d []] 1 x y w h pix = .error f := by
  rw [paint_one d hid hk]
  unfold okP at ok
  by_cases h1 : formP w h pix = false
  · exact ⟨25, by decide, by rw [if_pos h1]⟩
  · have h2 : (shiftP x && shiftP y) = false := by
      cases hq : (shiftP x && shiftP y) with
      | false => rfl
      | true =>
        rw [hq, Bool.and_true] at ok
        exact absurd ok h1
    exact ⟨31, by decide, by rw [if_neg h1, if_pos h2]⟩
theorem hw_one {d : Dat} {ls : List Lay} (e : ls = [.mk d []]) (hw : 0 ≤ d.w ∧ d.w ≤ 32768) (id : Int) : ∀ r, fnd id ls = some r → r.d.kind = 0 → 0 ≤ r.d.w ∧ r.d.w ≤ 32768 := by
  subst e
  intro r hr _
  have hm := fnd_mem hr
  simp [dats] at hm
  rw [hm]
  exact hw
theorem doP_ok {z : Int} {hd : Hd} {ls : List Loc} {d : Dat} {p : Hd} {x y ww hh : Int} {pix : List Int} (w : World) (D : DocV w hd ls) (e : er ls = [.mk d []]) (hid : d.id = 1) (hk : d.kind = 0) (hw : 0 ≤ d.w ∧ d.w ≤ 32768) (PR : ReadR w 3 1 p (ints pix)) (ok : okP ww hh x y pix = true) :
    Calls Try.prog 8 #[docV 6 6 z hd, edV (pe x y ww hh pix) p Hd.nil Hd.nil] w fun en w' => ∃ h' lsL, en = .returned (.tuple #[docV 6 6 z h', .int .i64 0]) ∧ er lsL = [.mk (setP d (paintN d.w y x ww.toNat pix hh.toNat d.p)) []] ∧ NewD w.heap.size w' h' lsL ∧ Keeps none' w w' := by
  refine (doPaint 6 6 z hd ls (pe x y ww hh pix) p Hd.nil Hd.nil w D (by rw [e]; exact good_one hid) PR (hw_one e hw _) rfl).mono ?_
  intro en w' h
  have e' : paintP (er ls) (pe x y ww hh pix).id (pe x y ww hh pix).x (pe x y ww hh pix).y (pe x y ww hh pix).w (pe x y ww hh pix).h (pe x y ww hh pix).p = .ok [.mk (setP d (paintN d.w y x ww.toNat pix hh.toNat d.p)) []] := by rw [e]; exact paint_yes1 hid hk ok
  rw [e'] at h
  exact h
def ErrP (w : World) (en : Ending) (w' : World) : Prop := ∃ f : Int, f ≠ 0 ∧ en = .returned (.tuple #[.agg #[.int .i64 0, .int .i64 0, .int .i64 0, .slice none 0 0], .int .i64 f]) ∧ Keeps none' w w'
theorem doP_bad {z : Int} {hd : Hd} {ls : List Loc} {d : Dat} {p : Hd} {x y ww hh : Int} {pix : List Int} (w : World) (D : DocV w hd ls) (e : er ls = [.mk d []]) (hid : d.id = 1) (hk : d.kind = 0) (hw : 0 ≤ d.w ∧ d.w ≤ 32768) (PR : ReadR w 3 1 p (ints pix)) (ok : okP ww hh x y pix = false) :
    Calls Try.prog 8 #[docV 6 6 z hd, edV (pe x y ww hh pix) p Hd.nil Hd.nil] w (ErrP w) := by
  refine (doPaint 6 6 z hd ls (pe x y ww hh pix) p Hd.nil Hd.nil w D (by rw [e]; exact good_one hid) PR (hw_one e hw _) rfl).mono ?_
  intro en w' h
  obtain ⟨f, hf, hp⟩ := paint_no1 (x := x) (y := y) (w := ww) (h := hh) (pix := pix) hid hk ok
  have e' : paintP (er ls) (pe x y ww hh pix).id (pe x y ww hh pix).x (pe x y ww hh pix).y (pe x y ww hh pix).w (pe x y ww hh pix).h (pe x y ww hh pix).p = .error f := by rw [e]; exact hp
  rw [e'] at h
  exact ⟨f, hf, h.1, h.2⟩
theorem doP_nil {p : Hd} {x y ww hh : Int} {pix : List Int} (w : World) (PR : ReadR w 3 1 p (ints pix)) :
    Calls Try.prog 8 #[docV 0 0 0 Hd.nil, edV (pe x y ww hh pix) p Hd.nil Hd.nil] w (ErrP w) := by
  refine (doPaint 0 0 0 Hd.nil [] (pe x y ww hh pix) p Hd.nil Hd.nil w (doc_nil w) (z0 := 1) (by rw [er]; exact gx0) PR (by rw [er]; intro r hr; simp [fnd, go] at hr) rfl).mono ?_
  intro en w' h
  have e' : paintP (er []) (pe x y ww hh pix).id (pe x y ww hh pix).x (pe x y ww hh pix).y (pe x y ww hh pix).w (pe x y ww hh pix).h (pe x y ww hh pix).p = .error 40 := by rw [er]; exact paint_none _ _ _ _ _
  rw [e'] at h
  exact ⟨40, by decide, h.1, h.2⟩
theorem Eb.s10 {w : World} {E : Nat} {e : PEd} {p s q : Hd} (h : Eb w E e p s q) (p' : Hd) (e' : PEd) (he : edCells e' p' s q = edCells e p' s q) : Eb (w.setCell ⟨E, 10, none⟩ (.slice p'.a p'.n p'.c)) E e' p' s q := by
  unfold Eb
  rw [block_set h, he]
  rfl
def lay6 : Dat := freshD 1 0 6 6
theorem ax6 : addP 1 [] 0 (-1) 0 6 6 = .ok [.mk lay6 []] := by
  simp [addP, areaP, sideP, homeP, plugP, insAt, pcnt, dats, lay6]
theorem lay6_facts : lay6.id = 1 ∧ lay6.kind = 0 ∧ lay6.w = 6 ∧ lay6.p = List.replicate 36 0 := by
  refine ⟨rfl, rfl, rfl, ?_⟩
  simp [lay6, freshD]
theorem ed_size (e : PEd) (p s q : Hd) : (edCells e p s q).toArray.size = 19 := by simp [edCells]
theorem ed_one (e : PEd) (p s q : Hd) : (edCells e p s q).toArray.all (·.oneCell') = true := by
  rw [Array.all_eq_true_iff_forall_mem]
  intro u hu
  simp [edCells] at hu
  rcases hu with h | h | h | h | h | h | h | h | h | h | h | h | h | h | h | h | h | h | h <;> (subst h; rfl)
theorem ed_row (e : PEd) (p s q : Hd) : (Try.prog.info? 35).map (·.size) = some (edCells e p s q).toArray.size ∧ 19 = (edCells e p s q).toArray.size ∧ (edCells e p s q).toArray.all (·.oneCell') = true := by
  rw [ed_size]
  exact ⟨size35, rfl, ed_one e p s q⟩
theorem pe_cells (x y ww hh : Int) (pix : List Int) (a : Option Addr) (n c : Nat) : #[.int .i64 4, .int .i64 1, .int .i64 0, .int .i64 0, .int .i64 0, .int .i64 0, .int .i64 x, .int .i64 y, .int .i64 ww, .int .i64 hh, .slice a n c, .slice none 0 0, .int .i64 0, .int .i64 0, .int .i64 0, .int .i64 0, .int .i64 0, .int .i64 0, .slice none 0 0] = (edCells (pe x y ww hh pix) ⟨a, n, c⟩ Hd.nil Hd.nil).toArray := rfl
theorem pe_row (x y ww hh : Int) (a : Option Addr) (n c : Nat) : (Try.prog.info? 35).map (·.size) = some (#[.int .i64 4, .int .i64 1, .int .i64 0, .int .i64 0, .int .i64 0, .int .i64 0, .int .i64 x, .int .i64 y, .int .i64 ww, .int .i64 hh, .slice a n c, .slice none 0 0, .int .i64 0, .int .i64 0, .int .i64 0, .int .i64 0, .int .i64 0, .int .i64 0, .slice none 0 0] : Array Value).size ∧ 19 = (#[.int .i64 4, .int .i64 1, .int .i64 0, .int .i64 0, .int .i64 0, .int .i64 0, .int .i64 x, .int .i64 y, .int .i64 ww, .int .i64 hh, .slice a n c, .slice none 0 0, .int .i64 0, .int .i64 0, .int .i64 0, .int .i64 0, .int .i64 0, .int .i64 0, .slice none 0 0] : Array Value).size ∧ (#[.int .i64 4, .int .i64 1, .int .i64 0, .int .i64 0, .int .i64 0, .int .i64 0, .int .i64 x, .int .i64 y, .int .i64 ww, .int .i64 hh, .slice a n c, .slice none 0 0, .int .i64 0, .int .i64 0, .int .i64 0, .int .i64 0, .int .i64 0, .int .i64 0, .slice none 0 0] : Array Value).all (·.oneCell') = true := by
  rw [pe_cells x y ww hh [] a n c]
  exact ed_row _ _ _ _
theorem pe_new (w : World) (x y ww hh : Int) (pix : List Int) (a : Option Addr) (n c : Nat) : Eb ((w.alloc (.cells #[.int .i64 0, .int .i64 0, .int .i64 0, .int .i64 0, .int .i64 0, .int .i64 0, .int .i64 0, .int .i64 0, .int .i64 0, .int .i64 0, .slice none 0 0, .slice none 0 0, .int .i64 0, .int .i64 0, .int .i64 0, .int .i64 0, .int .i64 0, .int .i64 0, .slice none 0 0] 35)).setRow w.heap.size #[.int .i64 4, .int .i64 1, .int .i64 0, .int .i64 0, .int .i64 0, .int .i64 0, .int .i64 x, .int .i64 y, .int .i64 ww, .int .i64 hh, .slice a n c, .slice none 0 0, .int .i64 0, .int .i64 0, .int .i64 0, .int .i64 0, .int .i64 0, .int .i64 0, .slice none 0 0]) w.heap.size (pe x y ww hh pix) ⟨a, n, c⟩ Hd.nil Hd.nil :=
  setRow_heap _ _ _ _ _ _ (heap_alloc_new _ _)
theorem nil_a : Hd.nil.a = none := rfl
theorem nil_n : Hd.nil.n = 0 := rfl
theorem nil_c : Hd.nil.c = 0 := rfl
/-- The painted rows. -/
def paintedP (x y ww hh : Int) (pix : List Int) : List Int := paintN 6 y x ww.toNat pix hh.toNat lay6.p
theorem okP_form {w h x y : Int} {p : List Int} (ok : okP w h x y p = true) : formP w h p = true := by
  unfold okP at ok
  rw [Bool.and_eq_true] at ok
  exact ok.1
theorem form_facts {w h : Int} {p : List Int} (f : formP w h p = true) : h.toNat * w.toNat ≤ p.length ∧ p.all pixB = true := by
  simp only [formP, sideP, Bool.and_eq_true, decide_eq_true_eq] at f
  obtain ⟨⟨w1, w2⟩, ⟨h1, h2⟩, h3, h4⟩ := f
  refine ⟨?_, h4⟩
  obtain ⟨a, rfl⟩ : ∃ a : Nat, w = (a : Int) := ⟨w.toNat, by omega⟩
  obtain ⟨b, rfl⟩ : ∃ b : Nat, h = (b : Int) := ⟨h.toNat, by omega⟩
  have h5 : p.length = a * b := by exact_mod_cast h3
  rw [Int.toNat_natCast, Int.toNat_natCast, h5, Nat.mul_comm]
  exact Nat.le_refl _
theorem lay6_all : lay6.p.all pixB = true := by
  rw [lay6_facts.2.2.2, List.all_eq_true]
  intro u hu
  rw [List.eq_of_mem_replicate hu]
  decide
theorem painted_facts (x y ww hh : Int) (pix : List Int) (h : pix.all pixB = true) : (paintedP x y ww hh pix).length = 36 ∧ (paintedP x y ww hh pix).all pixB = true := by
  unfold paintedP
  refine ⟨?_, paintN_all h lay6_all _⟩
  rw [paintN_len, lay6_facts.2.2.2, List.length_replicate]
theorem okP_whole {p : List Int} (h : p.length = 36) (ha : p.all pixB = true) : okP 6 6 0 0 p = true := by
  simp [okP, formP, sideP, shiftP, h, ha]
theorem paint_b (x y ww hh : Int) (first second : List Int) (f : formP ww hh second = true) : (.mk (setP (setP lay6 (paintedP x y ww hh first)) (paintN (setP lay6 (paintedP x y ww hh first)).w y x ww.toNat second hh.toNat (setP lay6 (paintedP x y ww hh first)).p)) [] : Lay) = .mk (setP lay6 (paintedP x y ww hh second)) [] := by
  have e : paintN 6 y x ww.toNat second hh.toNat (paintedP x y ww hh first) = paintedP x y ww hh second := paint_twice 6 y x ww.toNat hh.toNat first second lay6.p (form_facts f).1
  show (.mk (setP lay6 (paintN 6 y x ww.toNat second hh.toNat (paintedP x y ww hh first))) [] : Lay) = _
  rw [e]
theorem paint_w (P : List Int) : (.mk (setP (setP lay6 P) (paintN (setP lay6 P).w 0 0 (6 : Int).toNat P (6 : Int).toNat (setP lay6 P).p)) [] : Lay) = .mk (setP lay6 P) [] := by
  have e : paintN 6 0 0 6 P 6 P = P := paint_self 6 P 6
  show (.mk (setP lay6 (paintN 6 0 0 6 P 6 P)) [] : Lay) = _
  rw [e]

set_option maxRecDepth 100000 in
set_option maxHeartbeats 1600000 in
theorem paints_bad (a a' : Option Addr) (n n' c c' : Nat) (x y ww hh : Int) (w : World) (H : 400 < n ∨ n' ≠ n) : Calls Try.prog 5 #[.slice a n c, .slice a' n' c', .int .i64 x, .int .i64 y, .int .i64 ww, .int .i64 hh] w (Yes w) := by
  have AN := Lib.hid (anchor6 w)
  have B9 := fun w' => begun9 6 6 w' (by omega) (by omega)
  simp only [docV, docR, Hd.nil] at B9
  have BN := Lib.hid B9
  clear B9
  by_cases h4 : 400 < n
  · have d1 : decide ((n : Int) > 400) = true := by simp; omega
    have d2 : decide (400 < n) = true := by simp; omega
    clear H
    go_enter Try.func5, Try.ntmps5
    go_upto_region 3 with ((with_reducible refine AN.out.mono ?_); rintro en w1 ⟨rfl, hk⟩; have K1 := Lib.hid hk; clear hk)
    go_upto_region 4 with ((with_reducible refine (BN.out w1).mono ?_); rintro en w2 ⟨rfl, hk⟩; have K2 := Lib.hid (K1.out.next hk); clear hk)
    have K3 := Lib.hid ((K2.out.alloc (.cells #[.int .i64 6, .int .i64 6, .int .i64 1, .slice none 0 0] 25)).alloc (.cells #[.int .i64 6, .int .i64 6, .int .i64 1, .slice none 0 0] 40))
    go_wp2_with fail
    go_ret
    exact ⟨rfl, K3.out⟩
  · have hn : n' ≠ n := by omega
    have d1 : decide ((n : Int) > 400) = false := by simp; omega
    have d2 : decide (400 < n) = false := by simp; omega
    have d3 : ((n' : Int) == (n : Int)) = false := by simp; omega
    have d4 : ((n' : Int) != (n : Int)) = true := by simp; omega
    have d5 : decide ((n' : Int) = (n : Int)) = false := by simp; omega
    have d6 : decide (¬ (n' : Int) = (n : Int)) = true := by simp; omega
    clear H h4 hn
    go_enter Try.func5, Try.ntmps5
    go_upto_region 3 with ((with_reducible refine AN.out.mono ?_); rintro en w1 ⟨rfl, hk⟩; have K1 := Lib.hid hk; clear hk)
    go_upto_region 4 with ((with_reducible refine (BN.out w1).mono ?_); rintro en w2 ⟨rfl, hk⟩; have K2 := Lib.hid (K1.out.next hk); clear hk)
    have K3 := Lib.hid ((K2.out.alloc (.cells #[.int .i64 6, .int .i64 6, .int .i64 1, .slice none 0 0] 25)).alloc (.cells #[.int .i64 6, .int .i64 6, .int .i64 1, .slice none 0 0] 40))
    go_wp2_with fail
    go_ret
    exact ⟨rfl, K3.out⟩
set_option maxRecDepth 100000 in
set_option maxHeartbeats 6400000 in
theorem paints_good (a a' : Option Addr) (n c c' : Nat) (first second : List Int) (x y ww hh : Int) (w : World) (H : n ≤ 400) (RA : ReadR w 3 1 ⟨a, n, c⟩ (ints first)) (RB : ReadR w 3 1 ⟨a', n, c'⟩ (ints second)) : Calls Try.prog 5 #[.slice a n c, .slice a' n c', .int .i64 x, .int .i64 y, .int .i64 ww, .int .i64 hh] w (Yes w) := by
  have AN := Lib.hid (anchor6 w)
  have HR := Lib.hid (And.intro RA RB)
  have B9 := fun w' => begun9 6 6 w' (by omega) (by omega)
  simp only [docV, docR, Hd.nil] at B9
  have BN := Lib.hid B9
  have d1 : decide ((n : Int) > 400) = false := by simp; omega
  have d2 : decide (400 < n) = false := by simp; omega
  clear B9 RA RB H
  go_enter Try.func5, Try.ntmps5
  go_upto_region 3 with ((with_reducible refine AN.out.mono ?_); rintro en w1 ⟨rfl, hk⟩; have K1 := Lib.hid hk; clear hk)
  go_upto_region 4 with ((with_reducible refine (BN.out w1).mono ?_); rintro en w2 ⟨rfl, hk⟩; have K2 := Lib.hid (K1.out.next hk); clear hk)
  have k3 := ((Keeps.refl none' (w2.alloc (.cells #[.int .i64 6, .int .i64 6, .int .i64 1, .slice none 0 0] 25))).alloc (.cells #[.int .i64 6, .int .i64 6, .int .i64 1, .slice none 0 0] 40))
  have A3 := Lib.hid ((Dc.new w2 6 6 1 Hd.nil).later k3)
  have K3 := Lib.hid ((K2.out.alloc (.cells #[.int .i64 6, .int .i64 6, .int .i64 1, .slice none 0 0] 25)).next k3)
  unfold Hd.nil at A3
  obtain ⟨A, hA⟩ : ∃ A, A = w2.heap.size := ⟨_, rfl⟩
  have AW := Lib.hid (show w.heap.size ≤ A from by rw [hA]; exact K2.out.size)
  rw [← hA] at A3
  rw [← hA]
  clear hA k3 K1 K2 AN BN
  generalize (w2.alloc (.cells #[.int .i64 6, .int .i64 6, .int .i64 1, .slice none 0 0] 25)).alloc (.cells #[.int .i64 6, .int .i64 6, .int .i64 1, .slice none 0 0] 40) = w3 at *
  have c0 := A3.out.c0
  have c1 := A3.out.c1
  have c2 := A3.out.c2
  have c3 := A3.out.c3
  have AB := Lib.hid A3.out.lt
  have e1 := add_ok (x := 6) (y := 6) 0 (-1) 0 6 6 w3 (doc_nil w3) (by rw [er]; exact gx0) (by omega) (by rw [er]; exact ax6)
  simp only [docV, edV, edCells, ed, Hd.nil] at e1
  have D1 := Lib.hid e1
  clear e1
  go_upto_region 7 with ((with_reducible refine D1.out.mono ?_); rintro en w4 ⟨h1, l1, rfl, e1, n1, hk⟩; have K4 := Lib.hid (K3.out.next hk); have Y1 := Lib.hid e1; have N4 := Lib.hid n1; have A4 := Lib.hid (A3.out.later hk); obtain ⟨⟨b0, b1, b2, b3⟩, bf⟩ := four_cells A4.out; have f0 := bf 0; have f1 := bf 1; have f2 := bf 2; have f3 := bf 3; clear hk e1 n1 bf)
  obtain ⟨q1, q2, q3⟩ := set_doc (x' := 6) (y' := 6) (z' := 2) A4.out N4.out AB.out K4.out AW.out
  have A5 := Lib.hid q1
  have N5 := Lib.hid q2
  have K5 := Lib.hid q3
  clear q1 q2 q3 c0 c1 c2 c3 b0 b1 b2 b3 f0 f1 f2 f3 A3 A4 N4 K3 K4 D1
  generalize (((w4.setCell ⟨A, 0, none⟩ (.int .i64 6)).setCell ⟨A, 1, none⟩ (.int .i64 6)).setCell ⟨A, 2, none⟩ (.int .i64 2)).setCell ⟨A, 3, none⟩ (.slice h1.a h1.n h1.c) = w5 at *
  have PR := Lib.hid (pe_row x y ww hh a n c)
  go_upto_region 8 with (refine wpList_store_row rfl 35 _ _ rfl w5.heap.size #[.int .i64 4, .int .i64 1, .int .i64 0, .int .i64 0, .int .i64 0, .int .i64 0, .int .i64 x, .int .i64 y, .int .i64 ww, .int .i64 hh, .slice a n c, .slice none 0 0, .int .i64 0, .int .i64 0, .int .i64 0, .int .i64 0, .int .i64 0, .int .i64 0, .slice none 0 0] rfl rfl 35 _ (heap_alloc_new _ _) PR.out.1 (by exact PR.out.2.1) PR.out.2.2 ?_)
  have ka := ((Keeps.refl none' w5).alloc (.cells #[.int .i64 0, .int .i64 0, .int .i64 0, .int .i64 0, .int .i64 0, .int .i64 0, .int .i64 0, .int .i64 0, .int .i64 0, .int .i64 0, .slice none 0 0, .slice none 0 0, .int .i64 0, .int .i64 0, .int .i64 0, .int .i64 0, .int .i64 0, .int .i64 0, .slice none 0 0] 35)).setRow (Nat.le_refl _) #[.int .i64 4, .int .i64 1, .int .i64 0, .int .i64 0, .int .i64 0, .int .i64 0, .int .i64 x, .int .i64 y, .int .i64 ww, .int .i64 hh, .slice a n c, .slice none 0 0, .int .i64 0, .int .i64 0, .int .i64 0, .int .i64 0, .int .i64 0, .int .i64 0, .slice none 0 0]
  have E6 := Lib.hid (pe_new w5 x y ww hh first a n c)
  have A6 := Lib.hid (A5.out.later ka)
  have N6 := Lib.hid (N5.out.later ka)
  have K6 := Lib.hid (K5.out.next ka)
  obtain ⟨E, hE⟩ : ∃ E, E = w5.heap.size := ⟨_, rfl⟩
  rw [← hE] at E6 A6 N6 K6
  rw [← hE]
  clear hE ka A5 N5 K5 PR
  generalize (w5.alloc (.cells #[.int .i64 0, .int .i64 0, .int .i64 0, .int .i64 0, .int .i64 0, .int .i64 0, .int .i64 0, .int .i64 0, .int .i64 0, .int .i64 0, .slice none 0 0, .slice none 0 0, .int .i64 0, .int .i64 0, .int .i64 0, .int .i64 0, .int .i64 0, .int .i64 0, .slice none 0 0] 35)).setRow E #[.int .i64 4, .int .i64 1, .int .i64 0, .int .i64 0, .int .i64 0, .int .i64 0, .int .i64 x, .int .i64 y, .int .i64 ww, .int .i64 hh, .slice a n c, .slice none 0 0, .int .i64 0, .int .i64 0, .int .i64 0, .int .i64 0, .int .i64 0, .int .i64 0, .slice none 0 0] = w6 at *
  obtain ⟨X, hX⟩ : ∃ X, X = (edCells (pe x y ww hh first) ⟨a, n, c⟩ Hd.nil Hd.nil).toArray := ⟨_, rfl⟩
  have HX := Lib.hid (show (Try.prog.info? 35).map (·.size) = some X.size ∧ 19 = X.size ∧ X.all (·.oneCell') = true from by rw [hX]; exact ed_row _ _ _ _)
  have BX := Lib.hid (show w6.heap[E]? = some (.cells X 35 (0, 0)) from by rw [hX]; exact E6.out)
  have XX := Lib.hid hX
  clear hX
  go_upto_region 9 with (first
    | (refine wpList_load_row rfl 35 _ rfl E rfl 35 X (0, 0) _ BX.out Try.underlying35 rfl HX.out.1 ?_)
    | (refine wpList_store_row rfl 35 _ _ rfl w6.heap.size X rfl rfl 35 _ (heap_alloc_new _ _) HX.out.1 (by exact HX.out.2.1) HX.out.2.2 ?_))
  have kb := ((Keeps.refl none' w6).alloc (.cells #[.int .i64 0, .int .i64 0, .int .i64 0, .int .i64 0, .int .i64 0, .int .i64 0, .int .i64 0, .int .i64 0, .int .i64 0, .int .i64 0, .slice none 0 0, .slice none 0 0, .int .i64 0, .int .i64 0, .int .i64 0, .int .i64 0, .int .i64 0, .int .i64 0, .slice none 0 0] 35)).setRow (Nat.le_refl _) X
  have T7 := Lib.hid (show Eb ((w6.alloc (.cells #[.int .i64 0, .int .i64 0, .int .i64 0, .int .i64 0, .int .i64 0, .int .i64 0, .int .i64 0, .int .i64 0, .int .i64 0, .int .i64 0, .slice none 0 0, .slice none 0 0, .int .i64 0, .int .i64 0, .int .i64 0, .int .i64 0, .int .i64 0, .int .i64 0, .slice none 0 0] 35)).setRow w6.heap.size X) w6.heap.size (pe x y ww hh first) ⟨a, n, c⟩ Hd.nil Hd.nil from by
    have h := setRow_heap (w6.alloc (.cells #[.int .i64 0, .int .i64 0, .int .i64 0, .int .i64 0, .int .i64 0, .int .i64 0, .int .i64 0, .int .i64 0, .int .i64 0, .int .i64 0, .slice none 0 0, .slice none 0 0, .int .i64 0, .int .i64 0, .int .i64 0, .int .i64 0, .int .i64 0, .int .i64 0, .slice none 0 0] 35)) w6.heap.size _ X _ _ (heap_alloc_new _ _)
    unfold Eb
    rw [← XX.out]
    exact h)
  have BX7 := Lib.hid ((kb.later E (lt_of_block BX.out)).trans BX.out)
  have A7 := Lib.hid (A6.out.later kb)
  have N7 := Lib.hid (N6.out.later kb)
  have K7 := Lib.hid (K6.out.next kb)
  have TE := Lib.hid (show w.heap.size ≤ w6.heap.size ∧ E ≠ w6.heap.size ∧ A ≠ w6.heap.size from ⟨K6.out.size, by have := lt_of_block BX.out; omega, by have := lt_of_block A6.out; omega⟩)
  have NT := Lib.hid (show ∀ b ∈ h1.blk ++ blks l1, b ≠ w6.heap.size from fun b hb => by have := (N6.out.range b hb).2; omega)
  obtain ⟨T, hT⟩ : ∃ T, T = w6.heap.size := ⟨_, rfl⟩
  rw [← hT] at T7 TE NT BX7 A7 N7 K7
  rw [← hT]
  clear hT kb A6 N6 K6 E6 BX
  generalize (w6.alloc (.cells #[.int .i64 0, .int .i64 0, .int .i64 0, .int .i64 0, .int .i64 0, .int .i64 0, .int .i64 0, .int .i64 0, .int .i64 0, .int .i64 0, .slice none 0 0, .slice none 0 0, .int .i64 0, .int .i64 0, .int .i64 0, .int .i64 0, .int .i64 0, .int .i64 0, .slice none 0 0] 35)).setRow T X = w7 at *
  have x10 := T7.out.c10
  have x10f : w7.frozen? ⟨T, 10, none⟩ = false := by simp [World.frozen?, show w7.heap[T]? = _ from T7.out]
  go_upto_region 10 with (fail)
  have T8 := Lib.hid (T7.out.s10 ⟨a', n, c'⟩ (pe x y ww hh second) rfl)
  have kc := keeps_at w7 T 10 (.slice a' n c')
  have BX8 := Lib.hid ((kc.block E (lt_of_block BX7.out) TE.out.2.1).trans BX7.out)
  have A8 := Lib.hid (show Dc (w7.setCell ⟨T, 10, none⟩ (.slice a' n c')) A 6 6 2 h1 from (kc.block A A7.out.lt TE.out.2.2).trans A7.out)
  have N8 := Lib.hid (N7.out.keep kc (fun b hb e => NT.out b hb e))
  have K8 := Lib.hid (K7.out.setCell (p := ⟨T, 10, none⟩) (fun e => absurd TE.out.1 (by have e' : T < w.heap.size := e; omega)) (.slice a' n c'))
  clear x10 x10f T7 BX7 A7 N7 K7 kc
  generalize w7.setCell ⟨T, 10, none⟩ (.slice a' n c') = v9 at *
  obtain ⟨X2, hX2⟩ : ∃ X2, X2 = (edCells (pe x y ww hh second) ⟨a', n, c'⟩ Hd.nil Hd.nil).toArray := ⟨_, rfl⟩
  have HX2 := Lib.hid (show (Try.prog.info? 35).map (·.size) = some X2.size ∧ 19 = X2.size ∧ X2.all (·.oneCell') = true from by rw [hX2]; exact ed_row _ _ _ _)
  have BT := Lib.hid (show v9.heap[T]? = some (.cells X2 35 (0, 0)) from by rw [hX2]; exact T8.out)
  have XX2 := Lib.hid hX2
  have Q9 := Lib.hid (Keeps.refl none' v9)
  have PR1 := Lib.hid (show ∀ w', Keeps none' v9 w' → ReadR w' 3 1 ⟨a, n, c⟩ (ints first) from fun w' k => HR.out.1.keep (K8.out.next k) (fun _ _ h => h))
  have PR2 := Lib.hid (show ∀ w', Keeps none' v9 w' → ReadR w' 3 1 ⟨a', n, c'⟩ (ints second) from fun w' k => HR.out.2.keep (K8.out.next k) (fun _ _ h => h))
  have LW : 0 ≤ lay6.w ∧ lay6.w ≤ 32768 := by rw [lay6_facts.2.2.1]; omega
  clear hX2 T8 TE NT HR d1 d2
  have G1 := fun w' (k : Keeps none' v9 w') (ok : okP ww hh x y first = true) => doP_ok (z := 2) (p := ⟨a, n, c⟩) w' (N8.out.later k).docV Y1.out rfl rfl LW (PR1.out w' k) ok
  have F1 := fun w' (k : Keeps none' v9 w') (ok : okP ww hh x y first = false) => doP_bad (z := 2) (p := ⟨a, n, c⟩) w' (N8.out.later k).docV Y1.out rfl rfl LW (PR1.out w' k) ok
  have G2 := fun w' (k : Keeps none' v9 w') (ok : okP ww hh x y second = true) => doP_ok (z := 2) (p := ⟨a', n, c'⟩) w' (N8.out.later k).docV Y1.out rfl rfl LW (PR2.out w' k) ok
  have F2 := fun w' (k : Keeps none' v9 w') (ok : okP ww hh x y second = false) => doP_bad (z := 2) (p := ⟨a', n, c'⟩) w' (N8.out.later k).docV Y1.out rfl rfl LW (PR2.out w' k) ok
  have Z2 := fun w' (k : Keeps none' v9 w') => doP_nil (x := x) (y := y) (ww := ww) (hh := hh) (p := ⟨a', n, c'⟩) w' (PR2.out w' k)
  simp only [docV, edV] at G1 F1 G2 F2 Z2
  simp only [nil_a, nil_n, nil_c] at Z2
  rw [← XX.out] at G1 F1
  rw [← XX2.out] at G2 F2 Z2
  cases ok1 : okP ww hh x y first with
  | false =>
    have C1 := Lib.hid (fun w' k => F1 w' k ok1)
    have C2 := Lib.hid Z2
    have OK2 : (okP ww hh x y second = true) ∨ (okP ww hh x y second = false) := by cases okP ww hh x y second <;> simp
    have CG := Lib.hid (And.intro G2 F2)
    clear G1 F1 G2 F2 Z2 ok1
    have c0 := (A8.out.later Q9.out).c0
    have c1 := (A8.out.later Q9.out).c1
    have c2 := (A8.out.later Q9.out).c2
    have c3 := (A8.out.later Q9.out).c3
    have LE := Lib.hid ((Q9.out.later E (lt_of_block BX8.out)).trans BX8.out)
    go_upto_region 11 with (first
      | (refine wpList_load_row rfl 35 _ rfl E rfl 35 X (0, 0) _ LE.out Try.underlying35 rfl HX.out.1 ?_)
      | ((with_reducible refine (C1.out v9 Q9.out).mono ?_); rintro en u9 ⟨fe, hf, rfl, hk⟩; have J := Lib.hid hk; clear hk))
    have ka := (Keeps.refl none' u9).alloc (.cells #[.int .i64 0, .int .i64 0, .int .i64 0, .slice none 0 0] 25)
    have V9 := Lib.hid (show Dc (u9.alloc (.cells #[.int .i64 0, .int .i64 0, .int .i64 0, .slice none 0 0] 25)) u9.heap.size 0 0 0 Hd.nil from Dc.new u9 0 0 0 Hd.nil)
    have Q10 := Lib.hid (Q9.out.next (J.out.next ka))
    have HF := Lib.hid hf
    clear hf
    obtain ⟨B9, hB⟩ : ∃ B, B = u9.heap.size := ⟨_, rfl⟩
    rw [← hB] at V9
    rw [← hB]
    clear hB ka J LE c0 c1 c2 c3
    generalize u9.alloc (.cells #[.int .i64 0, .int .i64 0, .int .i64 0, .slice none 0 0] 25) = v10 at *
    have c0 := V9.out.c0
    have c1 := V9.out.c1
    have c2 := V9.out.c2
    have c3 := V9.out.c3
    simp only [nil_a, nil_n, nil_c] at c3
    have LE := Lib.hid ((Q10.out.later T (lt_of_block BT.out)).trans BT.out)
    go_upto_region 12 with (first
      | (refine wpList_load_row rfl 35 _ rfl T rfl 35 X2 (0, 0) _ LE.out Try.underlying35 rfl HX2.out.1 ?_)
      | ((with_reducible refine (C2.out v10 Q10.out).mono ?_); rintro en u10 ⟨fe2, hf2, rfl, hk⟩; have J := Lib.hid hk; clear hk hf2))
    have Q11 := Lib.hid (Q10.out.next (J.out.alloc (.cells #[.int .i64 0, .int .i64 0, .int .i64 0, .slice none 0 0] 25)))
    clear J LE c0 c1 c2 c3
    generalize u10.alloc (.cells #[.int .i64 0, .int .i64 0, .int .i64 0, .slice none 0 0] 25) = v11 at *
    have t1 : (fe == 0) = false := by simpa using HF.out
    have t2 : (fe != 0) = true := by simpa using HF.out
    have t3 : decide (fe = 0) = false := by simpa using HF.out
    rcases OK2 with ok2 | ok2
    · have C3 := Lib.hid (fun w' k => CG.out.1 w' k ok2)
      clear ok2
      have c0 := (A8.out.later Q11.out).c0
      have c1 := (A8.out.later Q11.out).c1
      have c2 := (A8.out.later Q11.out).c2
      have c3 := (A8.out.later Q11.out).c3
      have LE := Lib.hid ((Q11.out.later T (lt_of_block BT.out)).trans BT.out)
      go_upto_region 13 with (first
        | (refine wpList_load_row rfl 35 _ rfl T rfl 35 X2 (0, 0) _ LE.out Try.underlying35 rfl HX2.out.1 ?_)
        | ((with_reducible refine (C3.out v11 Q11.out).mono ?_); rintro en u11 ⟨h4, l4, rfl, e4, n4, hk⟩; have J := Lib.hid hk; clear hk))
      have ka := (Keeps.refl none' u11).alloc (.cells #[.int .i64 6, .int .i64 6, .int .i64 2, .slice h4.a h4.n h4.c] 25)
      have V11 := Lib.hid (Dc.new u11 6 6 2 h4)
      have Q12 := Lib.hid (Q11.out.next (J.out.next ka))
      clear e4 n4
      obtain ⟨B11, hB⟩ : ∃ B, B = u11.heap.size := ⟨_, rfl⟩
      rw [← hB] at V11
      rw [← hB]
      clear hB ka J LE c0 c1 c2 c3
      generalize u11.alloc (.cells #[.int .i64 6, .int .i64 6, .int .i64 2, .slice h4.a h4.n h4.c] 25) = v12 at *
      go_wp2_with fail
      go_ret
      exact ⟨rfl, K8.out.next Q12.out⟩
    · have C3 := Lib.hid (fun w' k => CG.out.2 w' k ok2)
      clear ok2
      have c0 := (A8.out.later Q11.out).c0
      have c1 := (A8.out.later Q11.out).c1
      have c2 := (A8.out.later Q11.out).c2
      have c3 := (A8.out.later Q11.out).c3
      have LE := Lib.hid ((Q11.out.later T (lt_of_block BT.out)).trans BT.out)
      go_upto_region 13 with (first
        | (refine wpList_load_row rfl 35 _ rfl T rfl 35 X2 (0, 0) _ LE.out Try.underlying35 rfl HX2.out.1 ?_)
        | ((with_reducible refine (C3.out v11 Q11.out).mono ?_); rintro en u11 ⟨fe3, hf3, rfl, hk⟩; have J := Lib.hid hk; clear hk))
      have ka := (Keeps.refl none' u11).alloc (.cells #[.int .i64 0, .int .i64 0, .int .i64 0, .slice none 0 0] 25)
      have V11 := Lib.hid (Dc.new u11 0 0 0 Hd.nil)
      have Q12 := Lib.hid (Q11.out.next (J.out.next ka))
      clear hf3
      obtain ⟨B11, hB⟩ : ∃ B, B = u11.heap.size := ⟨_, rfl⟩
      rw [← hB] at V11
      rw [← hB]
      clear hB ka J LE c0 c1 c2 c3
      generalize u11.alloc (.cells #[.int .i64 0, .int .i64 0, .int .i64 0, .slice none 0 0] 25) = v12 at *
      go_wp2_with fail
      go_ret
      exact ⟨rfl, K8.out.next Q12.out⟩
  | true =>
    have C1 := Lib.hid (fun w' k => G1 w' k ok1)
    clear F1 G1
    have c0 := (A8.out.later Q9.out).c0
    have c1 := (A8.out.later Q9.out).c1
    have c2 := (A8.out.later Q9.out).c2
    have c3 := (A8.out.later Q9.out).c3
    have LE := Lib.hid ((Q9.out.later E (lt_of_block BX8.out)).trans BX8.out)
    go_upto_region 11 with (first
      | (refine wpList_load_row rfl 35 _ rfl E rfl 35 X (0, 0) _ LE.out Try.underlying35 rfl HX.out.1 ?_)
      | ((with_reducible refine (C1.out v9 Q9.out).mono ?_); rintro en u9 ⟨h2, l2, rfl, e2, n2, hk⟩; have J := Lib.hid hk; clear hk))
    have ka := (Keeps.refl none' u9).alloc (.cells #[.int .i64 6, .int .i64 6, .int .i64 2, .slice h2.a h2.n h2.c] 25)
    have V9 := Lib.hid (Dc.new u9 6 6 2 h2)
    have Q10 := Lib.hid (Q9.out.next (J.out.next ka))
    have N2 := Lib.hid (n2.later ka)
    have Y2 := Lib.hid e2
    clear e2 n2
    obtain ⟨B9, hB⟩ : ∃ B, B = u9.heap.size := ⟨_, rfl⟩
    rw [← hB] at V9
    rw [← hB]
    clear hB ka J LE c0 c1 c2 c3
    generalize u9.alloc (.cells #[.int .i64 6, .int .i64 6, .int .i64 2, .slice h2.a h2.n h2.c] 25) = v10 at *
    cases ok2 : okP ww hh x y second with
    | false =>
      have hB := fun w' (k : Keeps none' v10 w') => doP_bad (z := 2) (p := ⟨a', n, c'⟩) w' (N2.out.later k).docV Y2.out rfl rfl LW (PR2.out w' (Q10.out.next k)) ok2
      simp only [docV, edV] at hB
      rw [← XX2.out] at hB
      have C2 := Lib.hid hB
      have C3 := Lib.hid (fun w' k => F2 w' k ok2)
      clear G2 F2 Z2 hB ok1 ok2
      have c0 := V9.out.c0
      have c1 := V9.out.c1
      have c2 := V9.out.c2
      have c3 := V9.out.c3
      have LE := Lib.hid ((Q10.out.later T (lt_of_block BT.out)).trans BT.out)
      go_upto_region 12 with (first
        | (refine wpList_load_row rfl 35 _ rfl T rfl 35 X2 (0, 0) _ LE.out Try.underlying35 rfl HX2.out.1 ?_)
        | ((with_reducible refine (C2.out v10 (Keeps.refl none' v10)).mono ?_); rintro en u10 ⟨fe, hf, rfl, hk⟩; have J := Lib.hid hk; have HF := Lib.hid hf; clear hk hf))
      have Q11 := Lib.hid (Q10.out.next (J.out.alloc (.cells #[.int .i64 0, .int .i64 0, .int .i64 0, .slice none 0 0] 25)))
      clear J LE c0 c1 c2 c3
      generalize u10.alloc (.cells #[.int .i64 0, .int .i64 0, .int .i64 0, .slice none 0 0] 25) = v11 at *
      have c0 := (A8.out.later Q11.out).c0
      have c1 := (A8.out.later Q11.out).c1
      have c2 := (A8.out.later Q11.out).c2
      have c3 := (A8.out.later Q11.out).c3
      have LE := Lib.hid ((Q11.out.later T (lt_of_block BT.out)).trans BT.out)
      go_upto_region 13 with (first
        | (refine wpList_load_row rfl 35 _ rfl T rfl 35 X2 (0, 0) _ LE.out Try.underlying35 rfl HX2.out.1 ?_)
        | ((with_reducible refine (C3.out v11 Q11.out).mono ?_); rintro en u11 ⟨fe3, hf3, rfl, hk⟩; have J := Lib.hid hk; clear hk))
      have ka := (Keeps.refl none' u11).alloc (.cells #[.int .i64 0, .int .i64 0, .int .i64 0, .slice none 0 0] 25)
      have V11 := Lib.hid (show Dc (u11.alloc (.cells #[.int .i64 0, .int .i64 0, .int .i64 0, .slice none 0 0] 25)) u11.heap.size 0 0 0 Hd.nil from Dc.new u11 0 0 0 Hd.nil)
      have Q12 := Lib.hid (Q11.out.next (J.out.next ka))
      clear hf3
      obtain ⟨B11, hB⟩ : ∃ B, B = u11.heap.size := ⟨_, rfl⟩
      rw [← hB] at V11
      rw [← hB]
      clear hB ka J LE c0 c1 c2 c3
      generalize u11.alloc (.cells #[.int .i64 0, .int .i64 0, .int .i64 0, .slice none 0 0] 25) = v12 at *
      have t1 : (fe == 0) = false := by simpa using HF.out
      have t2 : (fe != 0) = true := by simpa using HF.out
      have t3 : decide (fe = 0) = false := by simpa using HF.out
      go_wp2_with fail
      go_ret
      exact ⟨rfl, K8.out.next Q12.out⟩
    | true =>
      have hB := fun w' (k : Keeps none' v10 w') => doP_ok (z := 2) (p := ⟨a', n, c'⟩) w' (N2.out.later k).docV Y2.out rfl rfl LW (PR2.out w' (Q10.out.next k)) ok2
      simp only [docV, edV] at hB
      rw [← XX2.out] at hB
      have C2 := Lib.hid hB
      have C3 := Lib.hid (fun w' k => G2 w' k ok2)
      have OK2 := Lib.hid ok2
      clear G2 F2 Z2 hB ok1 ok2
      have c0 := V9.out.c0
      have c1 := V9.out.c1
      have c2 := V9.out.c2
      have c3 := V9.out.c3
      have LE := Lib.hid ((Q10.out.later T (lt_of_block BT.out)).trans BT.out)
      go_upto_region 12 with (first
        | (refine wpList_load_row rfl 35 _ rfl T rfl 35 X2 (0, 0) _ LE.out Try.underlying35 rfl HX2.out.1 ?_)
        | ((with_reducible refine (C2.out v10 (Keeps.refl none' v10)).mono ?_); rintro en u10 ⟨h3, l3, rfl, e3, n3, hk⟩; have J := Lib.hid hk; clear hk))
      have ka := (Keeps.refl none' u10).alloc (.cells #[.int .i64 6, .int .i64 6, .int .i64 2, .slice h3.a h3.n h3.c] 25)
      have V10 := Lib.hid (Dc.new u10 6 6 2 h3)
      have Q11 := Lib.hid (Q10.out.next (J.out.next ka))
      have N3 := Lib.hid (n3.later ka)
      have Y3 := Lib.hid (show er l3 = [.mk (setP lay6 (paintedP x y ww hh second)) []] from by rw [e3]; exact congrArg (fun u => [u]) (paint_b x y ww hh first second (okP_form OK2.out)))
      obtain ⟨B10, hB⟩ : ∃ B, B = u10.heap.size := ⟨_, rfl⟩
      rw [← hB] at V10
      rw [← hB]
      clear hB ka J LE c0 c1 c2 c3 e3 n3
      generalize u10.alloc (.cells #[.int .i64 6, .int .i64 6, .int .i64 2, .slice h3.a h3.n h3.c] 25) = v11 at *
      have c0 := (A8.out.later Q11.out).c0
      have c1 := (A8.out.later Q11.out).c1
      have c2 := (A8.out.later Q11.out).c2
      have c3 := (A8.out.later Q11.out).c3
      have LE := Lib.hid ((Q11.out.later T (lt_of_block BT.out)).trans BT.out)
      go_upto_region 13 with (first
        | (refine wpList_load_row rfl 35 _ rfl T rfl 35 X2 (0, 0) _ LE.out Try.underlying35 rfl HX2.out.1 ?_)
        | ((with_reducible refine (C3.out v11 Q11.out).mono ?_); rintro en u11 ⟨h4, l4, rfl, e4, n4, hk⟩; have J := Lib.hid hk; clear hk))
      have ka := (Keeps.refl none' u11).alloc (.cells #[.int .i64 6, .int .i64 6, .int .i64 2, .slice h4.a h4.n h4.c] 25)
      have V11 := Lib.hid (Dc.new u11 6 6 2 h4)
      have Q12 := Lib.hid (Q11.out.next (J.out.next ka))
      have N4 := Lib.hid (n4.later ka)
      have Y4 := Lib.hid (show er l4 = [.mk (setP lay6 (paintedP x y ww hh second)) []] from e4)
      have QC := Lib.hid (J.out.next ka)
      clear e4 n4
      obtain ⟨B11, hB⟩ : ∃ B, B = u11.heap.size := ⟨_, rfl⟩
      rw [← hB] at V11
      rw [← hB]
      clear hB ka J LE c0 c1 c2 c3
      generalize u11.alloc (.cells #[.int .i64 6, .int .i64 6, .int .i64 2, .slice h4.a h4.n h4.c] 25) = v12 at *
      have PF := Lib.hid (painted_facts x y ww hh second (form_facts (okP_form OK2.out)).2)
      obtain ⟨P, hP⟩ : ∃ P, P = paintedP x y ww hh second := ⟨_, rfl⟩
      rw [← hP] at Y3 Y4 PF
      clear hP
      have c0 := V11.out.c0
      have c1 := V11.out.c1
      have c2 := V11.out.c2
      have c3 := V11.out.c3
      have FB := find12 6 6 2 h4 l4 1 v12 N4.out.docV (by rw [cnt_eq, Y4.out]; simp [pcnt, dats])
      rw [Y4.out, show fnd 1 [.mk (setP lay6 P) []] = some ⟨[], [], setP lay6 P, [], []⟩ from by simp [fnd, go, setP, show lay6.id = 1 from rfl]] at FB
      simp only [docV, FoundL] at FB
      have FC := Lib.hid FB
      clear FB
      have LF := Lib.hid (show ∀ l : Loc, (Try.prog.info? 48).map (·.size) = some l.cells.toArray.size ∧ 19 = l.cells.toArray.size ∧ l.cells.toArray.all (·.oneCell') = true from fun l => by
        have e19 : l.cells.toArray.size = 19 := by rw [List.size_toArray, Loc.cells_length]
        refine ⟨by rw [e19]; exact size48, e19.symm, ?_⟩
        rw [Array.all_eq_true_iff_forall_mem]
        intro u hu
        exact l.cells_one u (by simpa using hu))
      go_upto_region 16 with (first
        | ((with_reducible refine FC.out.mono ?_); rintro en u12 ⟨⟨d, p, m, q, k, kids⟩, rfl, hl, ho, hn, hk⟩; have HL := Lib.hid (And.intro hl ho); have J := Lib.hid hk; clear hk hl ho hn)
        | (refine wpList_store_row rfl 48 _ _ rfl u12.heap.size (Loc.mk d p m q k kids).cells.toArray rfl rfl 48 _ (heap_alloc_new _ _) (LF.out (.mk d p m q k kids)).1 (by exact (LF.out (.mk d p m q k kids)).2.1) (LF.out (.mk d p m q k kids)).2.2 ?_))
      have ka := ((Keeps.refl none' u12).alloc (.cells #[.int .i64 0, .int .i64 0, .bool false, .int .i64 0, .int .i64 0, .int .i64 0, .int .i64 0, .slice none 0 0, .slice none 0 0, .int .i64 0, .int .i64 0, .int .i64 0, .int .i64 0, .int .i64 0, .int .i64 0, .bool false, .int .i64 0, .slice none 0 0, .slice none 0 0] 48)).setRow (Nat.le_refl _) (Loc.mk d p m q k kids).cells.toArray
      have GB := Lib.hid (show Lb ((u12.alloc (.cells #[.int .i64 0, .int .i64 0, .bool false, .int .i64 0, .int .i64 0, .int .i64 0, .int .i64 0, .slice none 0 0, .slice none 0 0, .int .i64 0, .int .i64 0, .int .i64 0, .int .i64 0, .int .i64 0, .int .i64 0, .bool false, .int .i64 0, .slice none 0 0, .slice none 0 0] 48)).setRow u12.heap.size (Loc.mk d p m q k kids).cells.toArray) u12.heap.size d p m q k from setRow_heap _ _ _ _ _ _ (heap_alloc_new _ _))
      have Q13 := Lib.hid (Q12.out.next (J.out.next ka))
      have R13 := Lib.hid (J.out.next ka)
      have OP := Lib.hid (show ReadR ((u12.alloc (.cells #[.int .i64 0, .int .i64 0, .bool false, .int .i64 0, .int .i64 0, .int .i64 0, .int .i64 0, .slice none 0 0, .slice none 0 0, .int .i64 0, .int .i64 0, .int .i64 0, .int .i64 0, .int .i64 0, .int .i64 0, .bool false, .int .i64 0, .slice none 0 0, .slice none 0 0] 48)).setRow u12.heap.size (Loc.mk d p m q k kids).cells.toArray) 3 1 p (ints P) from by
        obtain ⟨hl, ho⟩ := HL.out
        have hd : d = setP lay6 P := by
          rw [er_cons] at hl
          have h2 := (List.cons.inj hl).1
          exact (Lay.mk.inj h2).1
        unfold Own at ho
        rw [All] at ho
        have h3 := ho.1.read.1
        rw [hd] at h3
        exact h3.keep ka (fun _ _ h => h))
      obtain ⟨G, hG⟩ : ∃ G, G = u12.heap.size := ⟨_, rfl⟩
      rw [← hG] at GB Q13 R13 OP
      rw [← hG]
      clear hG ka J LF FC HL c0 c1 c2 c3
      generalize (u12.alloc (.cells #[.int .i64 0, .int .i64 0, .bool false, .int .i64 0, .int .i64 0, .int .i64 0, .int .i64 0, .slice none 0 0, .slice none 0 0, .int .i64 0, .int .i64 0, .int .i64 0, .int .i64 0, .int .i64 0, .int .i64 0, .bool false, .int .i64 0, .slice none 0 0, .slice none 0 0] 48)).setRow G (Loc.mk d p m q k kids).cells.toArray = v13 at *
      have c0 := (V11.out.later R13.out).c0
      have c1 := (V11.out.later R13.out).c1
      have c2 := (V11.out.later R13.out).c2
      have c3 := (V11.out.later R13.out).c3
      have g7 := GB.out.c7
      have w1' := doP_ok (z := 2) (p := p) (x := 0) (y := 0) (ww := 6) (hh := 6) (pix := P) v13 (N4.out.later R13.out).docV Y4.out rfl rfl LW OP.out (okP_whole PF.out.1 PF.out.2)
      simp only [docV, edV, edCells, pe, Hd.nil] at w1'
      have C5 := Lib.hid w1'
      clear w1'
      go_upto_region 17 with ((with_reducible refine C5.out.mono ?_); rintro en u13 ⟨h5, l5, rfl, e5, n5, hk⟩; have J := Lib.hid hk; clear hk)
      have ka := (Keeps.refl none' u13).alloc (.cells #[.int .i64 6, .int .i64 6, .int .i64 2, .slice h5.a h5.n h5.c] 25)
      have V13 := Lib.hid (Dc.new u13 6 6 2 h5)
      have Q14 := Lib.hid (Q13.out.next (J.out.next ka))
      have R14 := Lib.hid (R13.out.next (J.out.next ka))
      have N5 := Lib.hid (n5.later ka)
      have Y5 := Lib.hid (show er l5 = [.mk (setP lay6 P) []] from by rw [e5]; exact congrArg (fun u => [u]) (paint_w P))
      obtain ⟨B13, hB⟩ : ∃ B, B = u13.heap.size := ⟨_, rfl⟩
      rw [← hB] at V13
      rw [← hB]
      clear hB ka J c0 c1 c2 c3 g7 e5 n5 C5 OP GB
      generalize u13.alloc (.cells #[.int .i64 6, .int .i64 6, .int .i64 2, .slice h5.a h5.n h5.c] 25) = v14 at *
      have S1 := same13 6 6 2 h3 l3 6 6 2 h4 l4 v14 (N3.out.later (QC.out.next R14.out)).docV (N4.out.later R14.out).docV
      rw [Y3.out, Y4.out, show docB 6 6 2 [.mk (setP lay6 P) []] 6 6 2 [.mk (setP lay6 P) []] = true from by simp [docB, sameP_true]] at S1
      have S2 := fun w' (k : Keeps none' v14 w') => same13 6 6 2 h5 l5 6 6 2 h4 l4 w' (N5.out.later k).docV (N4.out.later (R14.out.next k)).docV
      rw [Y5.out, Y4.out, show docB 6 6 2 [.mk (setP lay6 P) []] 6 6 2 [.mk (setP lay6 P) []] = true from by simp [docB, sameP_true]] at S2
      simp only [docV] at S1 S2
      have SA := Lib.hid S1
      have SB := Lib.hid S2
      clear S1 S2
      have a0 := (V10.out.later (QC.out.next R14.out)).c0
      have a1 := (V10.out.later (QC.out.next R14.out)).c1
      have a2 := (V10.out.later (QC.out.next R14.out)).c2
      have a3 := (V10.out.later (QC.out.next R14.out)).c3
      have c0 := (V11.out.later R14.out).c0
      have c1 := (V11.out.later R14.out).c1
      have c2 := (V11.out.later R14.out).c2
      have c3 := (V11.out.later R14.out).c3
      go_wp2_with (first
        | ((with_reducible refine SA.out.mono ?_); rintro en u14 ⟨rfl, hk⟩; have J := Lib.hid hk; have e0 := (V11.out.later (R14.out.next hk)).c0; have e1 := (V11.out.later (R14.out.next hk)).c1; have e2 := (V11.out.later (R14.out.next hk)).c2; have e3 := (V11.out.later (R14.out.next hk)).c3; have f0 := (V13.out.later hk).c0; have f1 := (V13.out.later hk).c1; have f2 := (V13.out.later hk).c2; have f3 := (V13.out.later hk).c3; clear hk)
        | ((with_reducible refine (SB.out u14 J.out).mono ?_); rintro en u15 ⟨rfl, hk⟩; have J2 := Lib.hid hk; clear hk))
      go_ret
      exact ⟨rfl, K8.out.next (Q14.out.next (J.out.next J2.out))⟩
/-- TreePaints, whatever comes in. -/
theorem paints_walk (a a' : Option Addr) (n c n' c' : Nat) (first second : List Int) (x y ww hh : Int) (w : World) (RA : Cells 1 w ⟨a, n, c⟩ (ints first)) (RB : Cells 1 w ⟨a', n', c'⟩ (ints second)) : Calls Try.prog 5 #[.slice a n c, .slice a' n' c', .int .i64 x, .int .i64 y, .int .i64 ww, .int .i64 hh] w (Yes w) := by
  by_cases H : 400 < n ∨ n' ≠ n
  · exact paints_bad a a' n n' c c' x y ww hh w H
  · obtain rfl : n' = n := by omega
    exact paints_good a a' n' c c' first second x y ww hh w (by omega) ⟨RA, by show n' ≤ _; omega⟩ ⟨RB, by show n' ≤ _; omega⟩
end Go.Proofs.Ytfcpbpfemmdklaa
