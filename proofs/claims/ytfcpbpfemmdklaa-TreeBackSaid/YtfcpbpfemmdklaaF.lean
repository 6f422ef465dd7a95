/- The iterator over all layers: tell (63). (printed by genTF.py) -/
import Derived.Test.YtfcpbpfemmdklaaE
import Derived.RangeFuncNested
import Derived.RangeFuncBound
import Derived.RangeFuncCalls
import Derived.RangeFuncLeaves
import Derived.Shelf.Abstract
import Derived.Shelf.RegionOpen
import Derived.OwnWalkIn
import Derived.TacticsInMore
import Derived.LoopNIn
import Derived.LoopIn
namespace Go.Proofs.Ytfcpbpfemmdklaa
open Go.RowKit Go.Shelf
attribute [local go_sem] Oper.semAt_some
set_option linter.unusedSimpArgs false
set_option linter.unusedVariables false

/-- What a round that goes on keeps: cells below n₀, and from n₁ on. -/
structure KpS (n₀ n₁ : Nat) (W W' : World) : Prop where
  os : W'.os = W.os
  tape : W'.tape = W.tape
  output : W'.output = W.output
  size : W.heap.size ≤ W'.heap.size
  block : ∀ b c t f, W.heap[b]? = some (.cells c t f) → (b < n₀ ∨ n₁ ≤ b) → W'.heap[b]? = W.heap[b]?
theorem KpS.refl (n₀ n₁ : Nat) (W : World) : KpS n₀ n₁ W W := ⟨rfl, rfl, rfl, Nat.le_refl _, fun _ _ _ _ _ _ => rfl⟩
theorem KpS.trans {n₀ n₁ : Nat} {A B C : World} (h : KpS n₀ n₁ A B) (k : KpS n₀ n₁ B C) : KpS n₀ n₁ A C :=
  ⟨k.os.trans h.os, k.tape.trans h.tape, k.output.trans h.output, Nat.le_trans h.size k.size, fun b c t f e hb => (k.block b c t f ((h.block b c t f e hb).trans e) hb).trans (h.block b c t f e hb)⟩
theorem KpS.keeps {n₀ n₁ : Nat} {W W' : World} (h : Keeps none' W W') : KpS n₀ n₁ W W' := ⟨h.os, h.tape, h.output, h.size, fun b c t f e _ => h.later b (lt_of_block e)⟩
theorem KpS.alloc (n₀ n₁ : Nat) (W : World) (o : Obj) : KpS n₀ n₁ W (W.alloc o) := KpS.keeps ((Keeps.refl none' W).alloc o)
theorem KpS.put {n₀ n₁ : Nat} (W : World) (l : Nat) (o o' : Obj) (h : W.heap[l]? = some o) (hc : o.isCells = false) : KpS n₀ n₁ W (W.putObj l o') :=
  ⟨rfl, rfl, rfl, by simp [World.putObj], fun b c t f e _ => World.putObj_heap_other (fun e2 => by subst e2; rw [h] at e; cases e; cases hc)⟩
theorem KpS.cell {n₀ n₁ : Nat} {W W' : World} (h : KpS n₀ n₁ W W') {b o : Nat} {v : Value} (hc : W.cell? ⟨b, o, none⟩ = some v) (hb : b < n₀ ∨ n₁ ≤ b) : W'.cell? ⟨b, o, none⟩ = some v := by
  have hx : ∃ c t f, W.heap[b]? = some (.cells c t f) := by
    unfold World.cell? at hc
    simp only at hc
    split at hc
    · rename_i c t f e; exact ⟨c, t, f, e⟩
    · cases hc
  obtain ⟨c, t, f, e⟩ := hx
  exact (World.cell?_of_block (w := W) (w' := W') (h.block b c t f e hb)).trans hc
/-- A home that lies below n₀. -/
structure HomeN (n₀ : Nat) (w : World) (kb ko : Nat) (h : Hd) (ls : List Loc) : Prop where
  home : Home w kb ko h ls
  kb : kb < n₀
  arr : ∀ x, h.a = some x → x.block < n₀
  low : ∀ b ∈ blks ls, b < n₀
theorem Cells.kp {n₀ n₁ k : Nat} {w w' : World} {h : Hd} {vs : List Value} (c : Cells k w h vs) (kk : KpS n₀ n₁ w w') (hX : ∀ x, h.a = some x → x.block < n₀) : Cells k w' h vs := by
  refine ⟨c.len, c.cap, c.abs, c.one, fun x hx => ?_⟩
  obtain ⟨h1, h2, h3⟩ := c.at' x hx
  exact ⟨h1, Nat.lt_of_lt_of_le h2 kk.size, fun j u hj => kk.cell (h3 j u hj) (.inl (hX x hx))⟩
theorem HomeN.kp {n₀ n₁ : Nat} {w w' : World} {kb ko : Nat} {h : Hd} {ls : List Loc} (H : HomeN n₀ w kb ko h ls) (k : KpS n₀ n₁ w w') : HomeN n₀ w' kb ko h ls :=
  ⟨⟨k.cell H.home.ptr (.inl H.kb), ⟨H.home.row.1.kp k H.arr, H.home.row.2⟩, All.imp H.home.rep fun _ _ _ _ hm o => ⟨o.1.kp k (fun x hx => H.low _ (mem_blks hm hx)), o.2⟩⟩, H.kb, H.arr, H.low⟩
theorem mem_hds_at : ∀ {ls : List Loc} {i : Nat} {l : Loc}, ls[i]? = some l → (l.kh ∈ hds ls) ∧ ∀ h ∈ hds l.kids, h ∈ hds ls
  | .mk d p m q k kids :: ls, 0, l, e => by
    cases e
    rw [hds]
    exact ⟨by simp [Loc.kh], fun h hm => by simp only [Loc.kids] at hm; simp [hm]⟩
  | .mk d p m q k kids :: ls, i + 1, l, e => by
    obtain ⟨h1, h2⟩ := mem_hds_at (ls := ls) (i := i) (l := l) e
    rw [hds]
    exact ⟨by simp [h1], fun h hm => by simp [h2 h hm]⟩
theorem HomeN.kids {n₀ : Nat} {w : World} {kb ko : Nat} {h : Hd} {ls : List Loc} (H : HomeN n₀ w kb ko h ls) {b o : Nat} (hx : h.a = some ⟨b, o, none⟩) {i : Nat} {l : Loc} (hl : ls[i]? = some l) : HomeN n₀ w b (o + i * 19 + 18) l.kh l.kids := by
  obtain ⟨m1, m2⟩ := mem_hds_at hl
  refine ⟨H.home.kids hx hl, H.arr _ hx, fun x hx2 => H.low _ (mem_blks m1 hx2), fun b hb => H.low b ?_⟩
  unfold blks at hb ⊢
  obtain ⟨hd, hm, hb⟩ := List.mem_flatMap.1 hb
  exact List.mem_flatMap.2 ⟨hd, m2 hd hm, hb⟩
/-- A spot: the home, the place in it, the layer, where it lies. -/
structure Spt where
  hid : Int
  kb : Nat
  ko : Nat
  dep : Nat
  i : Nat
  l : Loc
  b : Nat
  o : Nat
abbrev encS (x : Spt) : Array Value := #[.agg #[.int .i64 x.hid, .pointer (some ⟨x.kb, x.ko, none⟩), .int .i64 (x.dep : Int), .int .i64 (x.i : Int)]]
def Hd.b (h : Hd) : Nat := match h.a with
  | none => 0
  | some x => x.block
def Hd.o (h : Hd) : Nat := match h.a with
  | none => 0
  | some x => x.off
/-- All spots, each ahead of the ones within it. -/
def sps (hid : Int) (kb ko dep b o : Nat) : Nat → List Loc → List Spt
  | _, [] => []
  | i, .mk d p m q k kids :: ls => ⟨hid, kb, ko, dep, i, .mk d p m q k kids, b, o + i * 19⟩ :: (sps d.id b (o + i * 19 + 18) (dep + 1) k.b k.o 0 kids ++ sps hid kb ko dep b o (i + 1) ls)
/-- How many layers there are. -/
def cnt : List Loc → Nat
  | [] => 0
  | .mk d p m q k kids :: ls => cnt kids + cnt ls + 1
theorem sps_length (hid : Int) (kb ko dep b o : Nat) : ∀ (i : Nat) (ls : List Loc), (sps hid kb ko dep b o i ls).length = cnt ls
  | i, [] => by rw [sps, cnt]; rfl
  | i, .mk d p m q k kids :: ls => by
    rw [sps, cnt, List.length_cons, List.length_append, sps_length d.id b (o + i * 19 + 18) (dep + 1) k.b k.o 0 kids, sps_length hid kb ko dep b o (i + 1) ls]
theorem sps_append (hid : Int) (kb ko dep b o : Nat) : ∀ (xs ys : List Loc) (i : Nat), sps hid kb ko dep b o i (xs ++ ys) = sps hid kb ko dep b o i xs ++ sps hid kb ko dep b o (i + xs.length) ys
  | [], ys, i => by rw [sps]; rfl
  | .mk d p m q k kids :: xs, ys, i => by
    rw [List.cons_append, sps, sps, sps_append hid kb ko dep b o xs ys (i + 1), List.length_cons, show i + 1 + xs.length = i + (xs.length + 1) by omega]
    simp [List.append_assoc]
theorem sps_more (hid : Int) (kb ko dep b o : Nat) {ls : List Loc} {j : Nat} {l : Loc} (hl : ls[j]? = some l) :
    sps hid kb ko dep b o 0 (ls.take (j + 1)) = sps hid kb ko dep b o 0 (ls.take j) ++ (⟨hid, kb, ko, dep, j, l, b, o + j * 19⟩ :: sps l.dat.id b (o + j * 19 + 18) (dep + 1) l.kh.b l.kh.o 0 l.kids) := by
  have hj := (List.getElem?_eq_some_iff.1 hl).1
  rw [take_more hl, sps_append, List.length_take, show 0 + min j ls.length = j by omega]
  cases l
  rw [sps, sps, List.append_nil]
  rfl
theorem cnt_append : ∀ (xs ys : List Loc), cnt (xs ++ ys) = cnt xs + cnt ys
  | [], ys => by rw [cnt]; simp
  | .mk d p m q k kids :: xs, ys => by rw [List.cons_append, cnt, cnt, cnt_append xs ys]; omega
theorem cnt_at {ls : List Loc} {j : Nat} {l : Loc} (hl : ls[j]? = some l) : cnt (ls.take j) + cnt l.kids + 1 + cnt (ls.drop (j + 1)) = cnt ls := by
  have hj := (List.getElem?_eq_some_iff.1 hl).1
  have hg := (List.getElem?_eq_some_iff.1 hl).2
  have e : ls = ls.take j ++ l :: ls.drop (j + 1) := by rw [← hg, ← List.drop_eq_getElem_cons hj, List.take_append_drop]
  have e2 : cnt ls = cnt (ls.take j ++ l :: ls.drop (j + 1)) := by rw [← e]
  rw [e2, cnt_append]
  cases l
  rw [cnt]
  simp only [Loc.kids]
  omega
theorem Keeps.grownBy {w w' : World} (h : Keeps none' w w') : w.grownBy w' none := ⟨h.os, h.tape, h.output, h.size, fun i hi _ => h.later i hi⟩
/-- A spot that is one, in a world. -/
def Vld (n₀ : Nat) (w0 : World) (x : Spt) : Prop := ∃ h ls off, HomeN n₀ w0 x.kb x.ko h ls ∧ ls[x.i]? = some x.l ∧ h.a = some ⟨x.b, off, none⟩ ∧ x.o = off + x.i * 19 ∧ x.dep ≤ 1099511627776
/-- What tell does, for layers. -/
def Tells (w0 : World) (l n₀ n₁ N : Nat) (J Jx : List Spt → World → Prop) (ls : List Loc) : Prop :=
  ∀ (n : Nat) (hid : Int) (kb ko dep : Nat) (h : Hd) (pre : List Spt) (W : World), HomeN n₀ w0 kb ko h ls → HomeN n₀ W kb ko h ls → J pre W → n₁ ≤ W.heap.size → dep + cnt ls ≤ 1099511627776 → pre.length + cnt ls ≤ N →
    CallsIn Fence.wide n Try.prog 63 #[.agg #[.int .i64 hid, .pointer (some ⟨kb, ko, none⟩), .int .i64 (dep : Int)], .func (.yield l) #[] #[]] W fun e W' =>
      (e = .returned (.bool true) ∧ J (pre ++ sps hid kb ko dep h.b h.o 0 ls) W' ∧ KpS n₀ n₁ W W') ∨ (e = .returned (.bool false) ∧ ∃ q, q <+: sps hid kb ko dep h.b h.o 0 ls ∧ Jx (pre ++ q) W')
set_option maxRecDepth 100000 in
set_option maxHeartbeats 1600000 in
theorem tells_of (w0 : World) (l n₀ n₁ N : Nat) (J Jx : List Spt → World → Prop) (hJ : ∀ s W W', J s W → Keeps none' W W' → J s W')
    (hY : ∀ m pre x W, Vld n₀ w0 x → J pre W → n₁ ≤ W.heap.size → pre.length < N → YieldAt Fence.wide m Try.prog l (encS x) W fun e W' =>
      (e = .returned (.bool true) ∧ J (pre ++ [x]) W' ∧ KpS n₀ n₁ W W') ∨ (e = .returned (.bool false) ∧ Jx (pre ++ [x]) W'))
    (ls : List Loc) (IH : ∀ x ∈ ls, Tells w0 l n₀ n₁ N J Jx x.kids) : Tells w0 l n₀ n₁ N J Jx ls := by
  intro n hid kb ko dep h pre W h00 hH hJ0 hn1 hdep hlen
  have H00 := Lib.hid h00
  have HH := Lib.hid hH
  have HJ := Lib.hid hJ
  have HY := Lib.hid hY
  have HI := Lib.hid IH
  have J0 := Lib.hid (hJ _ _ _ hJ0 ((Keeps.refl none' W).alloc (.cells #[.int .i64 hid, .pointer (some ⟨kb, ko, none⟩), .int .i64 (dep : Int)] 65)))
  have HB := Lib.hid (And.intro hdep (And.intro hlen hn1))
  have B0 := Lib.hid (Hm.new W hid kb ko dep)
  have K0 := Lib.hid ((Keeps.refl none' W).alloc (.cells #[.int .i64 hid, .pointer (some ⟨kb, ko, none⟩), .int .i64 (dep : Int)] 65))
  have H1 := Lib.hid (hH.kp (n₁ := n₁) (KpS.keeps K0.out))
  have b1 := B0.out.c1
  have hp := H1.out.home.ptr
  have HN := Lib.hid (And.intro hH.home.len hH.home.row.2)
  obtain ⟨ha, n', c'⟩ := h
  clear h00 hH hJ hY IH hJ0 hdep hlen hn1
  refine callsIn_of_wp Try.func63 rfl trivial ?_ rfl
  simp only [Try.ntmps63, List.size_toArray, List.length_cons, List.length_nil, Nat.reduceAdd, Nat.reduceSub, Array.replicate_succ, Array.replicate_zero, List.push_toArray, List.append_toArray, List.nil_append, List.cons_append]
  gi_wp2
  obtain ⟨S, hS⟩ : ∃ S, S = W.heap.size := ⟨_, rfl⟩
  have SZ := Lib.hid hS
  rw [← hS] at B0
  rw [← hS]
  generalize W.alloc (.cells #[.int .i64 hid, .pointer (some ⟨kb, ko, none⟩), .int .i64 (dep : Int)] 65) = W1 at *
  clear hS b1 hp
  gi_loopw [12] (fun cnt_ wr => ∃ j : Nat, j ≤ n' ∧ cnt_ = .int .i64 j ∧ J (pre ++ sps hid kb ko dep (Hd.b ⟨ha, n', c'⟩) (Hd.o ⟨ha, n', c'⟩) 0 (ls.take j)) wr ∧ HomeN n₀ wr kb ko ⟨ha, n', c'⟩ ls ∧ Hm wr S hid kb ko dep ∧ KpS n₀ n₁ W wr) (fun cnt_ _ => n' - (intOf cnt_).toNat)
  case atStart => exact ⟨0, Nat.zero_le _, rfl, by rw [List.take_zero, sps, List.append_nil]; exact J0.out, H1.out, B0.out, KpS.keeps K0.out⟩
  case round =>
    clear J0 B0 K0 H1 HH
    obtain ⟨j, hj, rfl, r1, r2, r3, r4⟩ := hrel
    have RJ := Lib.hid r1
    have RH := Lib.hid r2
    have RB := Lib.hid r3
    have RK := Lib.hid r4
    clear r1 r2 r3 r4
    have hnl : n' = ls.length := HN.out.1
    have hn9 : n' ≤ 536870912 := HN.out.2
    by_cases hlt : j < n'
    · have hjj : (j : Int) < n' := by omega
      obtain ⟨x, hx⟩ : ∃ x, ls[j]? = some x := ⟨_, List.getElem?_eq_getElem (by omega)⟩
      have HX := Lib.hid hx
      obtain ⟨b, o, hab, -⟩ := RH.out.home.lies (by omega)
      have hab2 : ha = some ⟨b, o, none⟩ := hab
      subst hab2
      clear hab
      clear hx hnl
      have b0 := RB.out.c0
      have b1 := RB.out.c1
      have b2 := RB.out.c2
      obtain ⟨P, hP⟩ : ∃ P, P = sps hid kb ko dep (Hd.b ⟨some ⟨b, o, none⟩, n', c'⟩) (Hd.o ⟨some ⟨b, o, none⟩, n', c'⟩) 0 (ls.take j) := ⟨_, rfl⟩
      obtain ⟨X, hX⟩ : ∃ X : Spt, X = ⟨hid, kb, ko, dep, j, x, b, o + j * 19⟩ := ⟨_, rfl⟩
      have MORE := Lib.hid (show sps hid kb ko dep (Hd.b ⟨some ⟨b, o, none⟩, n', c'⟩) (Hd.o ⟨some ⟨b, o, none⟩, n', c'⟩) 0 (ls.take (j + 1)) = P ++ (X :: sps x.dat.id b (o + j * 19 + 18) (dep + 1) x.kh.b x.kh.o 0 x.kids) from by rw [hP, hX]; exact sps_more hid kb ko dep b o HX.out)
      have PRE := Lib.hid (show sps hid kb ko dep (Hd.b ⟨some ⟨b, o, none⟩, n', c'⟩) (Hd.o ⟨some ⟨b, o, none⟩, n', c'⟩) 0 (ls.take (j + 1)) <+: sps hid kb ko dep (Hd.b ⟨some ⟨b, o, none⟩, n', c'⟩) (Hd.o ⟨some ⟨b, o, none⟩, n', c'⟩) 0 ls from by
        refine ⟨sps hid kb ko dep (Hd.b ⟨some ⟨b, o, none⟩, n', c'⟩) (Hd.o ⟨some ⟨b, o, none⟩, n', c'⟩) (0 + (ls.take (j + 1)).length) (ls.drop (j + 1)), ?_⟩
        rw [← sps_append, List.take_append_drop])
      have CNT := Lib.hid (cnt_at HX.out)
      have LEN := Lib.hid (show P.length = cnt (ls.take j) from by rw [hP, sps_length])
      rw [← hP] at RJ
      clear hP
      have K2 := Lib.hid ((Keeps.refl none' wr).alloc (.cells #[.int .i64 hid, .pointer (some ⟨kb, ko, none⟩), .int .i64 (dep : Int), .int .i64 (j : Int)] 67))
      have J2 := Lib.hid (HJ.out _ _ _ RJ.out K2.out)
      have T2 := Lib.hid (Sp.new wr hid kb ko dep j)
      have N2 := Lib.hid (show n₁ ≤ wr.heap.size from by have := HB.out.2.2; have := RK.out.size; omega)
      have N3 := Lib.hid (show n₁ ≤ (wr.alloc (.cells #[.int .i64 hid, .pointer (some ⟨kb, ko, none⟩), .int .i64 (dep : Int), .int .i64 (j : Int)] 67)).heap.size from by have := N2.out; have := K2.out.size; omega)
      have H2 := Lib.hid (RH.out.kp (n₁ := n₁) (KpS.keeps K2.out))
      have B2 := Lib.hid (RB.out.later K2.out)
      have KK2 := Lib.hid (RK.out.trans (KpS.keeps K2.out))
      have SB := Lib.hid (show n₁ ≤ S from by rw [SZ.out]; exact HB.out.2.2)
      obtain ⟨fn, tmps, assign, body, hy, hR⟩ := HY.out (n - 1) (pre ++ P) X (wr.alloc (.cells #[.int .i64 hid, .pointer (some ⟨kb, ko, none⟩), .int .i64 (dep : Int), .int .i64 (j : Int)] 67)) (by rw [hX]; exact ⟨_, ls, o, H00.out, HX.out, rfl, rfl, by have := HB.out.1; show dep ≤ _; omega⟩) J2.out N3.out (by rw [List.length_append]; have := LEN.out; have := CNT.out; have := HB.out.2.1; omega)
      rw [hX] at hy
      dsimp only [encS] at hy
      clear hX RJ RH RB
      obtain ⟨T, hT⟩ : ∃ T, T = wr.heap.size := ⟨_, rfl⟩
      have ET := Lib.hid hT
      gi_wp2
      rw [← hT]
      rw [← hT] at T2
      clear hT b0 b1 b2
      generalize wr.alloc (.cells #[.int .i64 hid, .pointer (some ⟨kb, ko, none⟩), .int .i64 (dep : Int), .int .i64 (j : Int)] 67) = w2 at *
      refine ⟨fun h => (by cases h), hR.mono ?_⟩
      rintro e w3 (⟨rfl, hJ3, hk3⟩ | ⟨rfl, hJx3⟩)
      · have T3 := Lib.hid (show Sp w3 T hid kb ko dep j from (hk3.block T _ _ _ T2.out (.inr (by rw [ET.out]; exact N2.out))).trans T2.out)
        have B3 := Lib.hid (show Hm w3 S hid kb ko dep from (hk3.block S _ _ _ B2.out (.inr SB.out)).trans B2.out)
        have H3 := Lib.hid (H2.out.kp hk3)
        have KK3 := Lib.hid (KK2.out.trans hk3)
        have J3 := Lib.hid hJ3
        have s0 := T3.out.c0
        have s1 := T3.out.c1
        have s2 := T3.out.c2
        have s3 := T3.out.c3
        have N5 := Lib.hid (show n₁ ≤ w3.heap.size from Nat.le_trans N3.out hk3.size)
        have WI := Lib.hid (within_any hid kb ko dep ⟨some ⟨b, o, none⟩, n', c'⟩ ls j x b o w3 H3.out.home rfl HX.out (by have := HB.out.1; omega))
        clear hJ3 hk3 hR
        gi_wp2_with (first
          | ((refine ⟨trivial, fun h => (by cases h), ?_⟩); gi_at_call 64; refine (callsIn_wide.2 WI.out).mono ?_; clear WI; rintro e w4 ⟨rfl, hk4⟩; have J4 := Lib.hid (HJ.out _ _ _ J3.out hk4); have H4 := Lib.hid (H3.out.kp (n₁ := n₁) (KpS.keeps hk4)); have B4 := Lib.hid (B3.out.later hk4); have KK4 := Lib.hid (KK3.out.trans (KpS.keeps hk4)); have N6 := Lib.hid (show n₁ ≤ w4.heap.size from Nat.le_trans N5.out hk4.size); clear hk4; clear J3 H3 KK3)
          | ((refine ⟨trivial, fun h => (by cases h), ?_⟩); gi_at_call 63; refine (HI.out x (List.mem_of_getElem? HX.out) (n - 1) x.dat.id b (o + j * 19 + 18) (dep + 1) x.kh (pre ++ P ++ [X]) w4 (H00.out.kids rfl HX.out) (H4.out.kids rfl HX.out) J4.out N6.out (by have := HB.out.1; have := CNT.out; omega) (by rw [List.length_append, List.length_append, List.length_singleton]; have := LEN.out; have := CNT.out; have := HB.out.2.1; omega)).mono ?_; rintro e w5 (⟨rfl, hJ5, hk5⟩ | ⟨rfl, q, hq, hx5⟩)))
        · have J6 := Lib.hid (show J (pre ++ sps hid kb ko dep (Hd.b ⟨some ⟨b, o, none⟩, n', c'⟩) (Hd.o ⟨some ⟨b, o, none⟩, n', c'⟩) 0 (ls.take (j + 1))) w5 from by
            rw [MORE.out]
            simpa [List.append_assoc] using hJ5)
          have H6 := Lib.hid (H4.out.kp hk5)
          have B6 := Lib.hid (show Hm w5 S hid kb ko dep from (hk5.block S _ _ _ B4.out (.inr SB.out)).trans B4.out)
          have KK6 := Lib.hid (KK4.out.trans hk5)
          clear hJ5 hk5
          go_roundw
          case rel => exact ⟨j + 1, by omega, by go_num, J6.out, H6.out, B6.out, KK6.out⟩
          case measure => simp [intOf]; omega
        · go_ret
          refine .inr ⟨rfl, P ++ (X :: q), ?_, by simpa [List.append_assoc] using hx5⟩
          obtain ⟨r, hr⟩ := hq
          refine List.IsPrefix.trans ⟨r, ?_⟩ PRE.out
          rw [MORE.out, ← hr]
          simp [List.append_assoc]
      · gi_wp2
        refine ⟨trivial, ?_⟩
        gi_wp2
        refine ⟨trivial, ?_⟩
        gi_wp2
        go_ret
        refine .inr ⟨rfl, P ++ [X], ?_, by simpa [List.append_assoc] using hJx3⟩
        refine List.IsPrefix.trans ⟨sps x.dat.id b (o + j * 19 + 18) (dep + 1) x.kh.b x.kh.o 0 x.kids, ?_⟩ PRE.out
        rw [MORE.out]
        simp [List.append_assoc]
    · obtain rfl : j = n' := by omega
      have t8 : decide (j < j) = false := by simp
      have htk : ls.take j = ls := List.take_of_length_le (by omega)
      rw [htk] at RJ
      clear htk hnl
      gi_wp2
      go_ret
      exact .inl ⟨rfl, RJ.out, RK.out⟩
theorem tells_fuel (w0 : World) (l n₀ n₁ N : Nat) (J Jx : List Spt → World → Prop) (hJ : ∀ s W W', J s W → Keeps none' W W' → J s W')
    (hY : ∀ m pre x W, Vld n₀ w0 x → J pre W → n₁ ≤ W.heap.size → pre.length < N → YieldAt Fence.wide m Try.prog l (encS x) W fun e W' =>
      (e = .returned (.bool true) ∧ J (pre ++ [x]) W' ∧ KpS n₀ n₁ W W') ∨ (e = .returned (.bool false) ∧ Jx (pre ++ [x]) W')) : ∀ (n : Nat) (ls : List Loc), SizeOf.sizeOf ls ≤ n → Tells w0 l n₀ n₁ N J Jx ls
  | 0, ls, h => by cases ls <;> simp at h
  | n + 1, ls, h => tells_of w0 l n₀ n₁ N J Jx hJ hY ls (fun x hx => by
    cases x with
    | mk d p m q k kids =>
      have hs := List.sizeOf_lt_of_mem hx
      simp only [Loc.mk.sizeOf_spec] at hs
      exact tells_fuel w0 l n₀ n₁ N J Jx hJ hY n kids (by omega))
/-- tell hands over all layers, each ahead of the ones within it, until one is enough. -/
theorem tells_any (w0 : World) (l n₀ n₁ N : Nat) (J Jx : List Spt → World → Prop) (hJ : ∀ s W W', J s W → Keeps none' W W' → J s W')
    (hY : ∀ m pre x W, Vld n₀ w0 x → J pre W → n₁ ≤ W.heap.size → pre.length < N → YieldAt Fence.wide m Try.prog l (encS x) W fun e W' =>
      (e = .returned (.bool true) ∧ J (pre ++ [x]) W' ∧ KpS n₀ n₁ W W') ∨ (e = .returned (.bool false) ∧ Jx (pre ++ [x]) W')) (ls : List Loc) : Tells w0 l n₀ n₁ N J Jx ls := tells_fuel w0 l n₀ n₁ N J Jx hJ hY _ ls (Nat.le_refl _)
end Go.Proofs.Ytfcpbpfemmdklaa
