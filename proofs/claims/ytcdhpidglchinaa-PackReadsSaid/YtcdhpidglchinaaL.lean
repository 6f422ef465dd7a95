/- reader.edit, reader.end, GetEdit. -/
import Derived.Test.YtcdhpidglchinaaK
import Derived.Test.YtcdhpidglchinaaF
import Derived.Deep.MidRow
namespace Go.Proofs.Ytcdhpidglchinaa
open Go.RowKit Go.Lib Pk
set_option linter.unusedSimpArgs false
set_option linter.unusedVariables false

def Z19 : Array Value := #[.int .i64 0, .int .i64 0, .int .i64 0, .int .i64 0, .int .i64 0, .int .i64 0, .int .i64 0, .int .i64 0, .int .i64 0, .int .i64 0, .slice none 0 0, .slice none 0 0, .int .i64 0, .int .i64 0, .int .i64 0, .int .i64 0, .int .i64 0, .int .i64 0, .slice none 0 0]
def PEd.of (l : List Int) (p : List Int) (s : List (Int × Int)) (m : List Int) (q : List Int) : PEd :=
  ⟨l.getD 0 0, l.getD 1 0, l.getD 2 0, l.getD 3 0, l.getD 4 0, l.getD 5 0, l.getD 6 0, l.getD 7 0, l.getD 8 0, l.getD 9 0, p, s, m.getD 0 0, m.getD 1 0, m.getD 2 0, m.getD 3 0, m.getD 4 0, m.getD 5 0, q⟩
theorem lay10 (l : List Int) (hl : l.length = 10) : lay 0 l Z19 = (edCells (PEd.of l [] [] [] []) Hd.nil Hd.nil Hd.nil).toArray := by
  match l, hl with
  | [a0, a1, a2, a3, a4, a5, a6, a7, a8, a9], _ => simp only [lay, Z19]; simp [edCells, PEd.of, Hd.nil]
theorem of_ten (l p : List Int) (s : List (Int × Int)) (m q : List Int) (hl : l.length = 10) : (PEd.of l p s m q).ten = l := by
  match l, hl with
  | [a0, a1, a2, a3, a4, a5, a6, a7, a8, a9], _ => rfl
theorem of_six (l p : List Int) (s : List (Int × Int)) (m q : List Int) (hl : m.length = 6) : (PEd.of l p s m q).six = m := by
  match m, hl with
  | [m0, m1, m2, m3, m4, m5], _ => rfl
theorem set10 (l p p' : List Int) (s : List (Int × Int)) (m q : List Int) (a b c d : Hd) : (edCells (PEd.of l p s m q) a b c).toArray.setIfInBounds 10 (.slice d.a d.n d.c) = (edCells (PEd.of l p' s m q) d b c).toArray := rfl
theorem set11 (l p : List Int) (s s' : List (Int × Int)) (m q : List Int) (a b c d : Hd) : (edCells (PEd.of l p s m q) a b c).toArray.setIfInBounds 11 (.slice d.a d.n d.c) = (edCells (PEd.of l p s' m q) a d c).toArray := rfl
theorem set18 (l p : List Int) (s : List (Int × Int)) (m q q' : List Int) (a b c d : Hd) : (edCells (PEd.of l p s m q) a b c).toArray.setIfInBounds 18 (.slice d.a d.n d.c) = (edCells (PEd.of l p s m q') a b d).toArray := rfl
theorem set12 (w : World) (T : TypeId) (E : Nat) (l p : List Int) (s : List (Int × Int)) (m m' q : List Int) (a b c : Hd) (hm : m'.length = 6) (h : Eb w T E (PEd.of l p s m q) a b c) : Eb (w.setCells E 12 (ints m')) T E (PEd.of l p s m' q) a b c := by
  match m', hm with
  | [m0, m1, m2, m3, m4, m5], _ =>
    show (((((((w.setCell ⟨E, 12, none⟩ (.int .i64 m0)).setCell ⟨E, 13, none⟩ (.int .i64 m1)).setCell ⟨E, 14, none⟩ (.int .i64 m2)).setCell ⟨E, 15, none⟩ (.int .i64 m3)).setCell ⟨E, 16, none⟩ (.int .i64 m4)).setCell ⟨E, 17, none⟩ (.int .i64 m5))).heap[E]? = _
    rw [block_set (block_set (block_set (block_set (block_set (block_set h (.int .i64 m0)) (.int .i64 m1)) (.int .i64 m2)) (.int .i64 m3)) (.int .i64 m4)) (.int .i64 m5)]
    rfl
theorem keeps_setCells (E : Nat) (l : List Value) : ∀ (w : World) (o : Nat), Keeps (fun k => k = E) w (w.setCells E o l) := by
  induction l with
  | nil => intro w o; exact Keeps.refl _ w
  | cons v l ih => intro w o; exact (keeps_at w E o v).trans (ih _ (o + 1)) (fun _ _ h => h)
theorem Eb.there {w : World} {T : TypeId} {E : Nat} {e : PEd} {p s q : Hd} (h : Eb w T E e p s q) (m : List Int) (hm : m.length = 6) : w.there E 12 (ints m).toArray.size := by
  intro j hj
  have hj6 : j < 6 := by simp [ints, hm] at hj; exact hj
  refine ⟨?_, free_at h⟩
  have : (edCells e p s q).toArray[12 + j]? = some ((edCells e p s q).toArray[12 + j]'(by simp [edCells]; omega)) := Array.getElem?_eq_getElem _
  rw [cell_at h this]
  rfl
/-- Where an edit under way stands. -/
structure Und (w : World) (Q P E : Nat) (st : St) (l p : List Int) (s : List (Int × Int)) (m q : List Int) (a b c : Hd) (w' : World) : Prop where
  eb : Eb w' 27 E (PEd.of l p s m q) a b c
  rd : Rd w' Q P st
  keep : Keeps (fun k => k = P ∨ k = E) w w'
  a : w'.ownsRow (E + 1) 3 1 (.slice a.a a.n a.c) a.n (ints p)
  b : w'.ownsRow (E + 1) 60 2 (.slice b.a b.n b.c) b.n (pts s)
  c : w'.ownsRow (E + 1) 3 1 (.slice c.a c.n c.c) c.n (ints q)
theorem own_more {w w' : World} {E P T k n : Nat} {v : Value} {vs : List Value} (h : w.ownsRow (E + 1) T k v n vs) (hP : P ≤ E) (t : Keeps (fun k => k = P ∨ k = E) w w') : w'.ownsRow (E + 1) T k v n vs :=
  own_kept h (fun g hg => t.block g (own_lt h g hg).2 (by have := (own_lt h g hg).1; rintro (e | e) <;> omega))
theorem own_low {w : World} {B B' T k n : Nat} {v : Value} {vs : List Value} (h : w.ownsRow B T k v n vs) (hB : B' ≤ B) : w.ownsRow B' T k v n vs := by
  obtain ⟨h1, h2⟩ := h
  refine ⟨h1, ?_⟩
  rcases h2 with h2 | ⟨g, cap, cur, rfl, hg, hh, r⟩
  · exact Or.inl h2
  · exact Or.inr ⟨g, cap, cur, rfl, by omega, hh, r⟩
/-- Behind a call that the reader goes on by. -/
theorem Und.next {w w1 w2 : World} {Q P E : Nat} {st st2 : St} {l p : List Int} {s : List (Int × Int)} {m q : List Int} {a b c : Hd} (h : Und w Q P E st l p s m q a b c w1) (hP : P < E) (t : RNext w1 Q P st2 w2) : Und w Q P E st2 l p s m q a b c w2 :=
  have k := t.2.weak (Y := fun k => k = P ∨ k = E) (fun _ _ x => Or.inl x)
  ⟨h.eb.keep t.2 (by omega), t.1, h.keep.trans k (fun _ _ x => x), own_more h.a (by omega) k, own_more h.b (by omega) k, own_more h.c (by omega) k⟩
theorem Und.set {w w1 w2 : World} {Q P E : Nat} {st : St} {l p : List Int} {s : List (Int × Int)} {m q : List Int} {a b c : Hd} {l' p' : List Int} {s' : List (Int × Int)} {m' q' : List Int} {a' b' c' : Hd} (h : Und w Q P E st l p s m q a b c w1) (hP : P < E) (hQ : Q ≤ E) (k : Keeps (fun k => k = E) w1 w2)
    (e : Eb w2 27 E (PEd.of l' p' s' m' q') a' b' c') (ha : w1.ownsRow (E + 1) 3 1 (.slice a'.a a'.n a'.c) a'.n (ints p')) (hb : w1.ownsRow (E + 1) 60 2 (.slice b'.a b'.n b'.c) b'.n (pts s')) (hc : w1.ownsRow (E + 1) 3 1 (.slice c'.a c'.n c'.c) c'.n (ints q')) : Und w Q P E st l' p' s' m' q' a' b' c' w2 :=
  have k2 := k.weak (Y := fun k => k = P ∨ k = E) (fun _ _ x => Or.inr x)
  ⟨e, h.rd.keep k (fun i hi => by subst hi; exact ⟨hQ, by omega⟩), h.keep.trans k2 (fun _ _ x => x), own_more ha (by omega) k2, own_more hb (by omega) k2, own_more hc (by omega) k2⟩
theorem getE_eq (s : St) : getE s = (((nums 10 s).1, (getL num (nums 10 s).2).1, (getL getPt (getL num (nums 10 s).2).2).1, (nums 6 (getL getPt (getL num (nums 10 s).2).2).2).1, (getL num (nums 6 (getL getPt (getL num (nums 10 s).2).2).2).2).1), (getL num (nums 6 (getL getPt (getL num (nums 10 s).2).2).2).2).2) := by simp only [getE, getP]
theorem ed_all (e : PEd) (a b c : Hd) : (edCells e a b c).toArray.all (·.oneCell') = true := by
  rw [Array.all_eq_true_iff_forall_mem]
  intro u hu
  have h : u ∈ edCells e a b c := by simpa using hu
  simp only [edCells, List.mem_cons, List.not_mem_nil, or_false] at h
  rcases h with rfl | rfl | rfl | rfl | rfl | rfl | rfl | rfl | rfl | rfl | rfl | rfl | rfl | rfl | rfl | rfl | rfl | rfl | rfl <;> rfl
/-- An edit that is told. -/
def GotE (w : World) (Q P : Nat) (s : St) (en : Ending) (w' : World) : Prop :=
  ∃ (e : PEd) (a b c : Hd), en = .returned (edV e a b c) ∧ e.ed = (getE s).1 ∧ EdIn w' e a b c ∧ (∀ x, (a.a = some x ∨ b.a = some x ∨ c.a = some x) → w.heap.size < x.block) ∧ RNext w Q P (getE s).2 w'
set_option maxRecDepth 100000 in
set_option maxHeartbeats 1600000 in
theorem redit_any (w : World) (Q P : Nat) (s : St) (h : Rd w Q P s) (hl : s.ys.length ≤ 1000000) :
    Calls Try.prog 18 #[.pointer (some ⟨P, 0, none⟩)] w (GotE w Q P s) := by
  obtain ⟨E, hE0⟩ : ∃ E, E = w.heap.size := ⟨_, rfl⟩
  obtain ⟨v, hv⟩ : ∃ v, v = w.alloc (.cells Z19 27) := ⟨_, rfl⟩
  obtain ⟨u, hu⟩ : ∃ u, u = v.alloc (.cells (ptrs E 10).toArray 76) := ⟨_, rfl⟩
  have K0 : Keeps none' w v := by rw [hv]; exact (Keeps.refl none' w).alloc _
  have K1 : Keeps none' w u := by rw [hu]; exact K0.alloc _
  have hP : P < E := by rw [hE0]; exact h.lt
  have hQ : Q ≤ E := by obtain ⟨g, hg⟩ := h; have := hg.le; omega
  have hsv : v.heap.size = E + 1 := by rw [hv, hE0]; simp
  have hE : u.heap[E]? = some (.cells Z19 27 (0, 0)) := by
    rw [hu]
    refine (Below.heap_alloc v _ _ (by omega)).trans ?_
    rw [hv, hE0]
    exact heap_alloc_new w _
  have hc : Cells 1 u ⟨some ⟨E + 1, 0, none⟩, 10, 10⟩ (ptrs E 10) := by
    rw [hu, ← hsv]
    exact cells_new 1 v _ 76 10 10 _ rfl (by simp [ptrs]) (Nat.le_refl _) (by intro u hu; simp only [ptrs, List.mem_map] at hu; obtain ⟨j, _, rfl⟩ := hu; rfl)
  have l1 := nums_less 10 s
  have l2 := (codec_num.list (fun a _ => put_pos a)).less (nums 10 s).2
  have l3 := (codec_pt.list (fun a _ => putPt_pos a)).less (getL num (nums 10 s).2).2
  have l4 := nums_less 6 (getL getPt (getL num (nums 10 s).2).2).2
  have C1 := Lib.hid (show Calls Try.prog 31 #[.pointer (some ⟨P, 0, none⟩), .slice (some ⟨w.heap.size + 1, 0, none⟩) 10 10] u (fun en w' => en = .returned (.tuple #[]) ∧ NumsB u Q P E 27 Z19 s 10 w') from by rw [← hE0]; exact rnums_any u Q P E 27 Z19 s ⟨some ⟨E + 1, 0, none⟩, 10, 10⟩ 10 (h.later K1) hl hE (by decide) hQ (by omega) hc (by intro x hx; cases hx; constructor; show E + 1 ≠ P; omega; show E + 1 ≠ E; omega) (by omega))
  have e10 := lay10 _ (nums_len 10 s)
  have t10 := nums_len 10 s
  have t6 := nums_len 6 (getL getPt (getL num (nums 10 s).2).2).2
  have eG := getE_eq s
  obtain ⟨ten, hten⟩ : ∃ x, x = (nums 10 s).1 := ⟨_, rfl⟩
  obtain ⟨s1, hs1⟩ : ∃ x, x = (nums 10 s).2 := ⟨_, rfl⟩
  rw [← hten] at e10 t10
  rw [← hs1] at l1 l2 l3 l4 t6
  rw [← hten, ← hs1] at eG
  obtain ⟨ps, hps⟩ : ∃ x, x = (getL num s1).1 := ⟨_, rfl⟩
  obtain ⟨s2, hs2⟩ : ∃ x, x = (getL num s1).2 := ⟨_, rfl⟩
  rw [← hs2] at l2 l3 l4 t6
  rw [← hps, ← hs2] at eG
  obtain ⟨ss, hss⟩ : ∃ x, x = (getL getPt s2).1 := ⟨_, rfl⟩
  obtain ⟨s3, hs3⟩ : ∃ x, x = (getL getPt s2).2 := ⟨_, rfl⟩
  rw [← hs3] at l3 l4 t6
  rw [← hss, ← hs3] at eG
  obtain ⟨six, hsix⟩ : ∃ x, x = (nums 6 s3).1 := ⟨_, rfl⟩
  obtain ⟨s4, hs4⟩ : ∃ x, x = (nums 6 s3).2 := ⟨_, rfl⟩
  rw [← hs4] at l4
  rw [← hsix] at t6
  rw [← hsix, ← hs4] at eG
  obtain ⟨qs, hqs⟩ : ∃ x, x = (getL num s4).1 := ⟨_, rfl⟩
  obtain ⟨s5, hs5⟩ : ∃ x, x = (getL num s4).2 := ⟨_, rfl⟩
  rw [← hqs, ← hs5] at eG
  have nilrow : ∀ (W : World) (T k : Nat), W.ownsRow (E + 1) T k (.slice Hd.nil.a Hd.nil.n Hd.nil.c) Hd.nil.n [] := fun W T k => ⟨by simp [Hd.nil], .inl ⟨rfl, rfl⟩⟩
  have S1 := Lib.hid (fun (w1 : World) (t : NumsB u Q P E 27 Z19 s 10 w1) => show Und w Q P E s1 ten [] [] [] [] Hd.nil Hd.nil Hd.nil w1 from by
    obtain ⟨r, b, k⟩ := t
    rw [← hs1] at r
    rw [← hten, e10] at b
    exact ⟨b, r, (K1.weak (fun _ _ f => f.elim)).trans k (fun _ _ x => x), nilrow _ _ _, nilrow _ _ _, nilrow _ _ _⟩)
  have C2 := Lib.hid (fun (w1 : World) (t : Rd w1 Q P s1) => show Calls Try.prog 32 #[.pointer (some ⟨P, 0, none⟩)] w1 (GotL w1 Q P 3 1 (ints ps) s2) from by have := rrow_any w1 Q P s1 t (by omega); rw [← hps, ← hs2] at this; exact this)
  have C3 := Lib.hid (fun (w1 : World) (t : Rd w1 Q P s2) => show Calls Try.prog 33 #[.pointer (some ⟨P, 0, none⟩), .func (.func 34) #[.pointer (some ⟨P, 0, none⟩)] #[]] w1 (GotL w1 Q P 60 2 (pts ss) s3) from by have := getPts_any w1 Q P s2 t (by omega); rw [← hss, ← hs3] at this; exact this)
  have C4 := Lib.hid (fun (w1 : World) (t : Rd w1 Q P s3) => show Calls Try.prog 35 #[.pointer (some ⟨P, 0, none⟩)] w1 (fun en w' => en = .returned (.agg (ints six).toArray) ∧ RNext w1 Q P s4 w') from by have := rplane_any w1 Q P s3 t (by omega); rw [← hsix, ← hs4] at this; exact this)
  have C5 := Lib.hid (fun (w1 : World) (t : Rd w1 Q P s4) => show Calls Try.prog 32 #[.pointer (some ⟨P, 0, none⟩)] w1 (GotL w1 Q P 3 1 (ints qs) s5) from by have := rrow_any w1 Q P s4 t (by omega); rw [← hqs, ← hs5] at this; exact this)
  have G2 := Lib.hid (fun (w1 w2 : World) (hd : Hd) (t : Und w Q P E s1 ten [] [] [] [] Hd.nil Hd.nil Hd.nil w1) (ho : w2.ownsRow w1.heap.size 3 1 (.slice hd.a hd.n hd.c) hd.n (ints ps)) (ht : RNext w1 Q P s2 w2) => show Und w Q P E s2 ten ps [] [] [] hd Hd.nil Hd.nil (w2.setCell ⟨E, 10, none⟩ (.slice hd.a hd.n hd.c)) from by
    have n := t.next hP ht
    refine n.set hP hQ (keeps_at _ _ _ _) ?_ (own_low ho t.eb.lt) n.b n.c
    unfold Eb
    rw [block_set n.eb, set10 _ _ ps])
  have G3 := Lib.hid (fun (w1 w2 : World) (a hd : Hd) (t : Und w Q P E s2 ten ps [] [] [] a Hd.nil Hd.nil w1) (ho : w2.ownsRow w1.heap.size 60 2 (.slice hd.a hd.n hd.c) hd.n (pts ss)) (ht : RNext w1 Q P s3 w2) => show Und w Q P E s3 ten ps ss [] [] a hd Hd.nil (w2.setCell ⟨E, 11, none⟩ (.slice hd.a hd.n hd.c)) from by
    have n := t.next hP ht
    refine n.set hP hQ (keeps_at _ _ _ _) ?_ n.a (own_low ho t.eb.lt) n.c
    unfold Eb
    rw [block_set n.eb, set11 _ _ _ ss])
  have G4 := Lib.hid (fun (w1 w2 : World) (a b : Hd) (t : Und w Q P E s3 ten ps ss [] [] a b Hd.nil w1) (ht : RNext w1 Q P s4 w2) => show Und w Q P E s4 ten ps ss six [] a b Hd.nil (w2.setCells E 12 (ints six)) from by
    have n := t.next hP ht
    exact n.set hP hQ (keeps_setCells _ _ _ _) (set12 _ _ _ _ _ _ _ _ _ _ _ _ t6 n.eb) n.a n.b n.c)
  have G5 := Lib.hid (fun (w1 w2 : World) (a b hd : Hd) (t : Und w Q P E s4 ten ps ss six [] a b Hd.nil w1) (ho : w2.ownsRow w1.heap.size 3 1 (.slice hd.a hd.n hd.c) hd.n (ints qs)) (ht : RNext w1 Q P s5 w2) => show Und w Q P E s5 ten ps ss six qs a b hd (w2.setCell ⟨E, 18, none⟩ (.slice hd.a hd.n hd.c)) from by
    have n := t.next hP ht
    refine n.set hP hQ (keeps_at _ _ _ _) ?_ n.a n.b (own_low ho t.eb.lt)
    unfold Eb
    rw [block_set n.eb, set18 _ _ _ _ _ qs])
  have HH := Lib.hid (And.intro hP (And.intro hQ (And.intro hE0 (And.intro t10 t6))))
  have HG := Lib.hid eG
  have sz6 : (Try.prog.info? 25).map (·.size) = some (ints six).toArray.size := by rw [sizeMap]; simp [ints, t6]
  have AL6 := Lib.hid (ints_all six)
  have hw2 : u = (w.alloc (.cells #[.int .i64 0, .int .i64 0, .int .i64 0, .int .i64 0, .int .i64 0, .int .i64 0, .int .i64 0, .int .i64 0, .int .i64 0, .int .i64 0, .slice none 0 0, .slice none 0 0, .int .i64 0, .int .i64 0, .int .i64 0, .int .i64 0, .int .i64 0, .int .i64 0, .slice none 0 0] 27)).alloc (.cells #[.pointer (some ⟨E, 0, none⟩), .pointer (some ⟨E, 1, none⟩), .pointer (some ⟨E, 2, none⟩), .pointer (some ⟨E, 3, none⟩), .pointer (some ⟨E, 4, none⟩), .pointer (some ⟨E, 5, none⟩), .pointer (some ⟨E, 6, none⟩), .pointer (some ⟨E, 7, none⟩), .pointer (some ⟨E, 8, none⟩), .pointer (some ⟨E, 9, none⟩)] 76) := by rw [hu, hv]; rfl
  rw [hw2] at C1
  rw [hw2] at S1
  clear h hl hP hQ hE0 hv hu K0 K1 hsv hE hc l1 l2 l3 l4 e10 t10 t6 eG hten hs1 hps hs2 hss hs3 hsix hs4 hqs hs5 nilrow hw2
  have sz19 := szEd (PEd.of ten ps ss six qs)
  go_enter Try.func18, Try.ntmps18
  go_upto_region 1 with (fail)
  rw [← HH.out.2.2.1]
  go_wp2_with (first
    | (go_at_call 31; ((with_reducible refine C1.out.mono ?_); rintro en w1 ⟨rfl, t1⟩; have U1 := Lib.hid (S1.out _ t1); clear t1))
    | (go_at_call 32; ((with_reducible refine (C2.out _ U1.out.rd).mono ?_); rintro en w2 ⟨a, rfl, o2, t2⟩; have N2 := (U1.out.next HH.out.1 t2).eb; have d10 := N2.c10; have f10 := free_at (i := 10) N2; have U2 := Lib.hid (G2.out _ _ _ U1.out o2 t2); clear o2 t2 N2))
    | (go_at_call 33; ((with_reducible refine (C3.out _ U2.out.rd).mono ?_); rintro en w3 ⟨b, rfl, o3, t3⟩; have N3 := (U2.out.next HH.out.1 t3).eb; have d11 := N3.c11; have f11 := free_at (i := 11) N3; have U3 := Lib.hid (G3.out _ _ _ _ U2.out o3 t3); clear o3 t3 N3))
    | (go_at_call 35; ((with_reducible refine (C4.out _ U3.out.rd).mono ?_); rintro en w4 ⟨rfl, t4⟩; have TH := Lib.hid ((U3.out.next HH.out.1 t4).eb.there six HH.out.2.2.2.2); have U4 := Lib.hid (G4.out _ _ _ _ U3.out t4); clear t4))
    | (refine wpList_store_mid rfl 25 _ _ rfl E 12 (ints six).toArray rfl rfl TH.out sz6 AL6.out ?_)
    | (go_at_call 32; ((with_reducible refine (C5.out _ U4.out.rd).mono ?_); rintro en w5 ⟨c, rfl, o5, t5⟩; have N5 := (U4.out.next HH.out.1 t5).eb; have d18 := N5.c18; have f18 := free_at (i := 18) N5; have U5 := Lib.hid (G5.out _ _ _ _ _ U4.out o5 t5); clear o5 t5 N5))
    | (refine wpList_load_row rfl 27 _ rfl E rfl 27 (edCells (PEd.of ten ps ss six qs) a b c).toArray (0, 0) _ U5.out.eb Try.underlying27 rfl (sz19 a b c) ?_)
    | (refine wpList_store_row rfl 27 _ _ rfl E (edCells (PEd.of ten ps ss six qs) a b c).toArray rfl rfl 27 _ U5.out.eb (sz19 a b c) rfl (ed_all _ a b c) ?_))
  refine bodyPost_ret (results_cell_row rfl _ _ E 27 (edCells (PEd.of ten ps ss six qs) a b c).toArray (0, 0) _ rfl (setRow_heap _ _ _ _ _ _ U5.out.eb) Try.underlying27 rfl (sz19 a b c)) rfl ?_
  have kE := keeps_row (w5.setCell ⟨E, 18, none⟩ (.slice c.a c.n c.c)) E (edCells (PEd.of ten ps ss six qs) a b c).toArray
  obtain ⟨hP, hQ, hE0, h10, h6⟩ := HH.out
  have F := U5.out.set hP hQ kE (setRow_heap _ _ _ _ _ _ U5.out.eb) U5.out.a U5.out.b U5.out.c
  unfold GotE
  rw [HG.out]
  have ca := own_cells2 F.a (ints_one _)
  have cb := own_cells2 F.b (pts_one _)
  have cc := own_cells2 F.c (ints_one _)
  refine ⟨PEd.of ten ps ss six qs, a, b, c, rfl, ?_, ⟨ca.1, cb.1, cc.1⟩, ?_, F.rd, F.keep.trans (Keeps.refl none' _) (fun _ _ x => x.elim) |>.weak ?_⟩
  · unfold PEd.ed
    rw [of_ten _ _ _ _ _ h10, of_six _ _ _ _ _ h6]
    rfl
  · rintro x (hx | hx | hx)
    · have := (ca.2 x hx).1; omega
    · have := (cb.2 x hx).1; omega
    · have := (cc.2 x hx).1; omega
  · intro k hk hx
    rcases hx with hx | hx
    · exact hx
    · omega
end Go.Proofs.Ytcdhpidglchinaa
