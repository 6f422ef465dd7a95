/- The document's GetEdit: what it keeps. -/
import Derived.Test.YtcdhpidglchinaaRD
import Derived.Test.YtcdhpidglchinaaX
import Derived.Test.YtcdhpidglchinaaM
namespace Go.Proofs.Ytcdhpidglchinaa
open Go.RowKit Go.Lib Pk
set_option linter.unusedSimpArgs false
set_option linter.unusedVariables false

def Z10 : Array Value := #[.int .i64 0, .int .i64 0, .int .i64 0, .int .i64 0, .int .i64 0, .int .i64 0, .int .i64 0, .int .i64 0, .int .i64 0, .int .i64 0]
theorem lay10z (l : List Int) (hl : l.length = 10) : lay 0 l Z10 = (ints l).toArray := by
  match l, hl with
  | [a0, a1, a2, a3, a4, a5, a6, a7, a8, a9], _ => simp only [lay, Z10]; simp [ints]
theorem lay12 (l p : List Int) (s : List (Int × Int)) (m q : List Int) (a b c : Hd) (hm : m.length = 6) : lay 12 m (edCells (PEd.of l p s [] q) a b c).toArray = (edCells (PEd.of l p s m q) a b c).toArray := by
  match m, hm with
  | [m0, m1, m2, m3, m4, m5], _ => simp only [lay]; simp [edCells, PEd.of]
/-- An edit under way. -/
structure UdR (w : World) (Q P R O : Nat) (zs : List Nat) (st : St) (l p : List Int) (s : List (Int × Int)) (m q : List Int) (a b c : Hd) (wr : World) : Prop where
  eb : Eb wr 39 O (PEd.of l p s m q) a b c
  rd : Rf wr Q P zs st
  zero : wr.heap[R]? = some (.cells Z19 39 (0, 0))
  keep : Keeps none' w wr
  a : wr.ownsRow (O + 1) 3 1 (.slice a.a a.n a.c) a.n (ints p)
  b : wr.ownsRow (O + 1) 59 2 (.slice b.a b.n b.c) b.n (pts s)
  c : wr.ownsRow (O + 1) 3 1 (.slice c.a c.n c.c) c.n (ints q)
theorem own_moreR {w w' : World} {O P T k n : Nat} {v : Value} {vs : List Value} (h : w.ownsRow (O + 1) T k v n vs) (hP : P ≤ O) (t : Keeps (fun k => k = P ∨ k = O) w w') : w'.ownsRow (O + 1) T k v n vs :=
  own_kept h (fun g hg => t.block g (own_lt h g hg).2 (by have := (own_lt h g hg).1; rintro (e | e) <;> omega))
/-- Where the blocks lie. -/
structure Lie (w : World) (Q P R O : Nat) : Prop where
  q : Q = w.heap.size
  r : R = w.heap.size
  p : P = w.heap.size + 1
  o : w.heap.size + 2 ≤ O
theorem UdR.move {w w1 w2 : World} {Q P R O : Nat} {zs : List Nat} {st st2 : St} {l p : List Int} {s : List (Int × Int)} {m q : List Int} {a b c : Hd} {l' p' : List Int} {s' : List (Int × Int)} {m' q' : List Int} {a' b' c' : Hd} (h : UdR w Q P R O zs st l p s m q a b c w1) (L : Lie w Q P R O) (k : Keeps (fun k => k = P ∨ k = O) w1 w2)
    (r : Rf w2 Q P zs st2) (e : Eb w2 39 O (PEd.of l' p' s' m' q') a' b' c') (ha : w1.ownsRow (O + 1) 3 1 (.slice a'.a a'.n a'.c) a'.n (ints p')) (hb : w1.ownsRow (O + 1) 59 2 (.slice b'.a b'.n b'.c) b'.n (pts s')) (hc : w1.ownsRow (O + 1) 3 1 (.slice c'.a c'.n c'.c) c'.n (ints q')) : UdR w Q P R O zs st2 l' p' s' m' q' a' b' c' w2 := by
  have hp := L.p
  have hr := L.r
  have ho := L.o
  exact ⟨e, r, (k.block R (lt_of_block h.zero) (by rintro (x | x) <;> omega)).trans h.zero, h.keep.trans k (fun i hi x => by rcases x with x | x <;> omega), own_moreR ha (by omega) k, own_moreR hb (by omega) k, own_moreR hc (by omega) k⟩
/-- Behind a call that the reader goes on by. -/
theorem UdR.next {w w1 w2 : World} {Q P R O : Nat} {zs : List Nat} {st st2 : St} {l p : List Int} {s : List (Int × Int)} {m q : List Int} {a b c : Hd} (h : UdR w Q P R O zs st l p s m q a b c w1) (L : Lie w Q P R O) (t : RfNext w1 Q P zs st2 w2) : UdR w Q P R O zs st2 l p s m q a b c w2 :=
  h.move L (t.2.weak (fun _ _ x => Or.inl x)) t.1 (h.eb.keep t.2 (by have := L.p; have := L.o; omega)) h.a h.b h.c
/-- Behind a store into the edit. -/
theorem UdR.set {w w1 w2 : World} {Q P R O : Nat} {zs : List Nat} {st : St} {l p : List Int} {s : List (Int × Int)} {m q : List Int} {a b c : Hd} {l' p' : List Int} {s' : List (Int × Int)} {m' q' : List Int} {a' b' c' : Hd} (h : UdR w Q P R O zs st l p s m q a b c w1) (L : Lie w Q P R O) (k : Keeps (fun k => k = O) w1 w2)
    (e : Eb w2 39 O (PEd.of l' p' s' m' q') a' b' c') (ha : w1.ownsRow (O + 1) 3 1 (.slice a'.a a'.n a'.c) a'.n (ints p')) (hb : w1.ownsRow (O + 1) 59 2 (.slice b'.a b'.n b'.c) b'.n (pts s')) (hc : w1.ownsRow (O + 1) 3 1 (.slice c'.a c'.n c'.c) c'.n (ints q')) : UdR w Q P R O zs st l' p' s' m' q' a' b' c' w2 :=
  h.move L (k.weak (fun _ _ x => Or.inr x)) (h.rd.keep k (fun i hi => by subst hi; have := L.q; have := L.p; have := L.o; constructor <;> omega)) e ha hb hc
/-- With a row's block grown, or a new one laid. -/
theorem UdR.grown {w w1 w2 : World} {Q P R O : Nat} {zs : List Nat} {st : St} {l p : List Int} {s s' : List (Int × Int)} {m q : List Int} {a b c b' : Hd} (h : UdR w Q P R O zs st l p s m q a b c w1) (L : Lie w Q P R O) {wb : World} (kb : Keeps none' w1 wb) (hg : wb.grownBy w2 (Value.slice b.a b.n b.c).ownBlock)
    (ha : ∀ g, (Value.slice a.a a.n a.c).ownBlock = some g → (Value.slice b.a b.n b.c).ownBlock ≠ some g) (hcn : c = Hd.nil) (hqn : q = [])
    (hb : w2.ownsRow (O + 1) 59 2 (.slice b'.a b'.n b'.c) b'.n (pts s')) : UdR w Q P R O zs st l p s' m q a b' c (w2.setCell ⟨O, 11, none⟩ (.slice b'.a b'.n b'.c)) := by
  have hp := L.p
  have hr := L.r
  have ho := L.o
  have hq := L.q
  have ob := fun g e => (own_lt h.b g e).1
  have gk : Keeps (fun q => some q = (Value.slice b.a b.n b.c).ownBlock) w1 w2 := (kb.weak (fun _ _ f => f.elim)).grown hg (fun q _ e => e.symm)
  have ks := keeps_at w2 O 11 (.slice b'.a b'.n b'.c)
  have eb2 : Eb w2 39 O (PEd.of l p s m q) a b c := h.eb.keep gk (fun x => by have := ob O x.symm; omega)
  refine ⟨?_, ?_, ?_, ?_, ?_, ?_, ?_⟩
  · unfold Eb
    rw [block_set eb2]
    subst hcn
    rw [set11 _ _ _ s']
  · exact (h.rd.keep gk (fun i hi => by have := ob i hi.symm; constructor <;> omega)).keep ks (fun i hi => by subst hi; constructor <;> omega)
  · refine (ks.block R (Nat.lt_of_lt_of_le (lt_of_block h.zero) gk.size) (by omega)).trans ?_
    exact (gk.block R (lt_of_block h.zero) (fun x => by have := ob R x.symm; omega)).trans h.zero
  · exact (h.keep.trans gk (fun i hi x => by have := ob i x.symm; omega)).trans ks (fun i hi x => by omega)
  · refine own_kept (own_kept h.a (fun g hgg => gk.block g (own_lt h.a g hgg).2 (fun x => ha g hgg x.symm))) (fun g hgg => ks.block g ?_ ?_)
    · exact Nat.lt_of_lt_of_le (own_lt h.a g hgg).2 gk.size
    · have := (own_lt h.a g hgg).1; omega
  · exact own_kept hb (fun g hgg => ks.block g (own_lt hb g hgg).2 (by have := (own_lt hb g hgg).1; omega))
  · subst hcn hqn
    exact ⟨by simp [Hd.nil, ints], .inl ⟨rfl, rfl⟩⟩
def OnRP (s : St) (k : Nat) (l : List (Int × Int)) (sk : St) : Prop := (OnList getPt s k l sk ∧ (l = [] ∨ sk.f = 0)) ∨ (sk.f ≠ 0 ∧ (getL getPt s).2 = sk)
theorem getPt_bad {s : St} (h : s.f ≠ 0) (hy : s.ys = []) : (getPt s).2 = s := by
  obtain ⟨h1, h2⟩ := codec_pt.bad s h hy
  cases s
  simp only at hy
  subst hy
  cases hg : (getPt ⟨_, []⟩).2 with
  | mk f ys =>
    rw [hg] at h1 h2
    simp only at h1 h2
    subst h1 h2
    rfl
theorem onrp_stop {s sk : St} {k : Nat} {l : List (Int × Int)} (h : OnRP s k l sk) (hf : sk.f ≠ 0) (hy : sk.ys = []) (hk : k ≤ (count s).1) : (getL getPt s).2 = sk := by
  rcases h with ⟨h, _⟩ | ⟨_, h⟩
  · by_cases hlt : k < (count s).1
    · have e := getPt_bad hf hy
      have := onlist_bad h hlt (by rw [e]; exact hf)
      rw [this, e]
    · have ek : k = (count s).1 := by omega
      subst ek
      rw [h.1, Nat.sub_self]
      unfold cont many
      rw [if_pos hf]
  · exact h
theorem onrp_end {s sk : St} {l : List (Int × Int)} (h : OnRP s (count s).1 l sk) (hf : sk.f = 0) : getL getPt s = (l, sk) := by
  rcases h with ⟨h, hz⟩ | ⟨h, _⟩
  · exact onlist_end h hz
  · exact absurd hf h
theorem onrp_next {s sk : St} {k : Nat} {l : List (Int × Int)} (h : OnRP s k l sk) (hf : sk.f = 0) (hk : k < (count s).1) : OnRP s (k + 1) (l ++ [(getPt sk).1]) (getPt sk).2 := by
  rcases h with ⟨h, _⟩ | ⟨h, _⟩
  · by_cases h2 : (getPt sk).2.f = 0
    · exact Or.inl ⟨onlist_next getPt_less h hk (by omega), Or.inr h2⟩
    · refine Or.inr ⟨h2, ?_⟩
      rw [onlist_bad h hk h2]
  · exact absurd hf h
end Go.Proofs.Ytcdhpidglchinaa
