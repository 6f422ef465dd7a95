/- Lists of layers compared (25), documents (13). -/
import Derived.Test.YtfcpbpfemmdklaaZO
namespace Go.Proofs.Ytfcpbpfemmdklaa
open Go.RowKit Go.Lib
set_option linter.unusedSimpArgs false
set_option linter.unusedVariables false

/-- One layer compared. -/
def SameOne (l : Loc) : Prop := ∀ (m : Loc) (w : World), Rep w [l] → Rep w [m] → Calls Try.prog 26 #[.agg l.cells.toArray, .agg m.cells.toArray] w fun en w' => en = .returned (.bool (sameP (er [l]) (er [m]))) ∧ Keeps none' w w'
theorem sameOne (l : Loc) (H : Sames l.kids) : SameOne l := by
  intro m w hl hm
  cases l with
  | mk d p m1 q k kids =>
    cases m with
    | mk e p' m' q' k' kids' =>
      have h := same26 d e p m1 q k p' m' q' k' kids kids' H w hl hm
      have e1 : sameP (er [.mk d p m1 q k kids]) (er [.mk e p' m' q' k' kids']) = (datB d e && sameP (er kids) (er kids')) := by
        rw [er, er, er, er, sameP, sameP, Bool.and_true]
      rw [e1]
      exact h
theorem sames_no (ms ls : List Loc) (h g : Hd) (w : World) (hn : h.n ≠ g.n) : Calls Try.prog 25 #[.slice h.a h.n h.c, .slice g.a g.n g.c, .func (.func 26) #[] #[]] w fun en w' => en = .returned (.bool false) ∧ Keeps none' w w' := by
  obtain ⟨a, n, c⟩ := h
  obtain ⟨a', n', c'⟩ := g
  simp only at hn
  have d1 : ((n : Int) == (n' : Int)) = false := by simp; omega
  have d2 : ((n : Int) != (n' : Int)) = true := by simp; omega
  have d3 : decide ((n : Int) = (n' : Int)) = false := by simp; omega
  have d4 : decide (¬ (n : Int) = (n' : Int)) = true := by simp; omega
  go_enter Try.func25, Try.ntmps25
  go_wp2_with fail
  go_ret
  exact ⟨rfl, Keeps.refl _ _⟩
theorem sames_nil (a a' : Option Addr) (c c' : Nat) (w : World) : Calls Try.prog 25 #[.slice a 0 c, .slice a' 0 c', .func (.func 26) #[] #[]] w fun e w' => e = .returned (.bool true) ∧ Keeps none' w w' := by
  go_enter Try.func25, Try.ntmps25
  go_wp2_with fail
  go_loopw [17] (fun s13 wr => s13 = .int .i64 0 ∧ Keeps none' w wr) (fun _ _ => 0)
  case atStart => exact ⟨rfl, Keeps.refl _ _⟩
  case round =>
    obtain ⟨rfl, hk⟩ := hrel
    have K := Lib.hid hk
    clear hk
    go_wp2_with fail
    go_ret
    exact ⟨rfl, K.out⟩
theorem er_at {ls : List Loc} {i : Nat} {l : Loc} (h : ls[i]? = some l) : (er ls)[i]? = (er [l])[0]? := by
  have e : ls = ls.take i ++ l :: ls.drop (i + 1) := by
    have hi := (List.getElem?_eq_some_iff.1 h).1
    have hg : ls[i] = l := (List.getElem?_eq_some_iff.1 h).2
    rw [← hg, ← List.drop_eq_getElem_cons hi, List.take_append_drop]
  have hl : (er (ls.take i)).length = i := by rw [er_length, List.length_take]; have := (List.getElem?_eq_some_iff.1 h).1; omega
  rw [e, er_append, List.getElem?_append_right (by omega), hl, Nat.sub_self, er_cons, er_cons]
  rfl
theorem er_take_more {ls : List Loc} {i : Nat} {l : Loc} (h : ls[i]? = some l) : er (ls.take (i + 1)) = er (ls.take i) ++ er [l] := by rw [take_more h, er_append]
theorem rows_at {w wr : World} {b o n c i : Nat} {ls : List Loc} {l : Loc} (R : ReadR w 48 19 ⟨some ⟨b, o, none⟩, n, c⟩ (flat ls)) (k : Keeps none' w wr) (hl : ls[i]? = some l) : wr.rangeAt b (o + i * 19) l.cells := fun j u hj => by
  have := k.cell ((R.1.at' _ rfl).2.2 (i * 19 + j) u (flat_at ls i l hl j u hj))
  rw [← Nat.add_assoc] at this
  exact this
def Z48v : Obj := .cells #[.int .i64 0, .int .i64 0, .bool false, .int .i64 0, .int .i64 0, .int .i64 0, .int .i64 0, .slice none 0 0, .slice none 0 0, .int .i64 0, .int .i64 0, .int .i64 0, .int .i64 0, .int .i64 0, .int .i64 0, .bool false, .int .i64 0, .slice none 0 0, .slice none 0 0] 48
set_option maxRecDepth 100000 in
set_option maxHeartbeats 1600000 in
theorem sames_some (ls : List Loc) (H : ∀ l ∈ ls, SameOne l) (ms : List Loc) (b o n c b' o' c' : Nat) (w : World) (R : ReadR w 48 19 ⟨some ⟨b, o, none⟩, n, c⟩ (flat ls)) (G : ReadR w 48 19 ⟨some ⟨b', o', none⟩, n, c'⟩ (flat ms)) (P : Rep w ls) (Q : Rep w ms) :
    Calls Try.prog 25 #[.slice (some ⟨b, o, none⟩) n c, .slice (some ⟨b', o', none⟩) n c', .func (.func 26) #[] #[]] w fun en w' => en = .returned (.bool (sameP (er ls) (er ms))) ∧ Keeps none' w w' := by
  have hl : ls.length = n := by
    have h1 := R.1.len
    rw [flat_length] at h1
    have h2 : ls.length * 19 = n * 19 := h1
    omega
  have gl : ms.length = n := by
    have h1 := G.1.len
    rw [flat_length] at h1
    have h2 : ms.length * 19 = n * 19 := h1
    omega
  have hn : n ≤ 536870912 := R.2
  have HR := Lib.hid (And.intro R G)
  have HP := Lib.hid (And.intro P Q)
  have HC := Lib.hid H
  have HN := Lib.hid (And.intro hl (And.intro gl hn))
  clear R G P Q H hl gl hn
  go_enter Try.func25, Try.ntmps25
  go_wp2_with fail
  go_loopw [17] (fun s17 wr => ∃ i : Nat, i ≤ n ∧ s17 = .int .i64 i ∧ er (ls.take i) = er (ms.take i) ∧ Keeps none' w wr) (fun s17 _ => n - (intOf s17).toNat)
  case atStart => exact ⟨0, Nat.zero_le _, rfl, by simp, Keeps.refl _ _⟩
  case round =>
    obtain ⟨i, hi, rfl, h1, hk⟩ := hrel
    have E1 := Lib.hid h1
    have K := Lib.hid hk
    have n30 := HN.out.2.2
    clear h1 hk
    by_cases hlt : i < n
    · have hii : (i : Int) < n := by omega
      have tk : decide ((i : Int) < (n : Int)) = true := by simp; omega
      have tk2 : decide (i < n) = true := by simp; omega
      obtain ⟨l, hl⟩ : ∃ l, ls[i]? = some l := ⟨_, List.getElem?_eq_getElem (by have := HN.out.1; omega)⟩
      obtain ⟨m, hm⟩ : ∃ m, ms[i]? = some m := ⟨_, List.getElem?_eq_getElem (by have := HN.out.2.1; omega)⟩
      have RG := Lib.hid (rows_at HR.out.1 K.out hl)
      have RL := Lib.hid (show (Try.prog.info? 48).map (·.size) = some l.cells.length ∧ (Try.prog.info? 48).map (·.size) = some m.cells.length from ⟨by rw [Loc.cells_length]; exact size48, by rw [Loc.cells_length]; exact size48⟩)
      have LF := Lib.hid (show ∀ l : Loc, (Try.prog.info? 48).map (·.size) = some l.cells.toArray.size ∧ 19 = l.cells.toArray.size ∧ l.cells.toArray.all (·.oneCell') = true from fun l => by
        have e19 : l.cells.toArray.size = 19 := by rw [List.size_toArray, Loc.cells_length]
        refine ⟨by rw [e19]; exact size48, e19.symm, ?_⟩
        rw [Array.all_eq_true_iff_forall_mem]
        intro u hu
        exact l.cells_one u (by simpa using hu))
      have HL := Lib.hid hl
      have HM := Lib.hid hm
      have hb : (i : Int) < 536870912 := by omega
      have iw : wrap64 ((i : Int) + 1) = (i : Int) + 1 := wrap64_id _ (by omega) (by omega)
      clear hl hm
      go_upto_region 6 with (first
        | (refine wpList_load_mid rfl 48 _ rfl b (o + i * 19) rfl l.cells _ RG.out Try.underlying48 rfl RL.out.1 ?_)
        | (refine wpList_store_row rfl 48 _ _ rfl wr.heap.size l.cells.toArray rfl rfl 48 _ (heap_alloc_new _ _) (LF.out l).1 (by exact (LF.out l).2.1) (LF.out l).2.2 ?_))
      have LB := Lib.hid (setRow_heap (wr.alloc (.cells #[.int .i64 0, .int .i64 0, .bool false, .int .i64 0, .int .i64 0, .int .i64 0, .int .i64 0, .slice none 0 0, .slice none 0 0, .int .i64 0, .int .i64 0, .int .i64 0, .int .i64 0, .int .i64 0, .int .i64 0, .bool false, .int .i64 0, .slice none 0 0, .slice none 0 0] 48)) wr.heap.size _ l.cells.toArray _ _ (heap_alloc_new wr (.cells #[.int .i64 0, .int .i64 0, .bool false, .int .i64 0, .int .i64 0, .int .i64 0, .int .i64 0, .slice none 0 0, .slice none 0 0, .int .i64 0, .int .i64 0, .int .i64 0, .int .i64 0, .int .i64 0, .int .i64 0, .bool false, .int .i64 0, .slice none 0 0, .slice none 0 0] 48)))
      have K2 := Lib.hid (K.out.next (((Keeps.refl none' wr).alloc (.cells #[.int .i64 0, .int .i64 0, .bool false, .int .i64 0, .int .i64 0, .int .i64 0, .int .i64 0, .slice none 0 0, .slice none 0 0, .int .i64 0, .int .i64 0, .int .i64 0, .int .i64 0, .int .i64 0, .int .i64 0, .bool false, .int .i64 0, .slice none 0 0, .slice none 0 0] 48)).setRow (Nat.le_refl _) l.cells.toArray))
      generalize (wr.alloc (.cells #[.int .i64 0, .int .i64 0, .bool false, .int .i64 0, .int .i64 0, .int .i64 0, .int .i64 0, .slice none 0 0, .slice none 0 0, .int .i64 0, .int .i64 0, .int .i64 0, .int .i64 0, .int .i64 0, .int .i64 0, .bool false, .int .i64 0, .slice none 0 0, .slice none 0 0] 48)).setRow wr.heap.size l.cells.toArray = w2 at *
      obtain ⟨L, hL⟩ : ∃ L, L = wr.heap.size := ⟨_, rfl⟩
      rw [← hL] at LB
      rw [← hL]
      clear hL
      have SG := Lib.hid (rows_at HR.out.2 K2.out HM.out)
      go_upto_region 7 with (first
        | (refine wpList_load_mid rfl 48 _ rfl b' (o' + i * 19) rfl m.cells _ SG.out Try.underlying48 rfl RL.out.2 ?_)
        | (refine wpList_store_row rfl 48 _ _ rfl w2.heap.size m.cells.toArray rfl rfl 48 _ (heap_alloc_new _ _) (LF.out m).1 (by exact (LF.out m).2.1) (LF.out m).2.2 ?_))
      have MB := Lib.hid (setRow_heap (w2.alloc (.cells #[.int .i64 0, .int .i64 0, .bool false, .int .i64 0, .int .i64 0, .int .i64 0, .int .i64 0, .slice none 0 0, .slice none 0 0, .int .i64 0, .int .i64 0, .int .i64 0, .int .i64 0, .int .i64 0, .int .i64 0, .bool false, .int .i64 0, .slice none 0 0, .slice none 0 0] 48)) w2.heap.size _ m.cells.toArray _ _ (heap_alloc_new w2 (.cells #[.int .i64 0, .int .i64 0, .bool false, .int .i64 0, .int .i64 0, .int .i64 0, .int .i64 0, .slice none 0 0, .slice none 0 0, .int .i64 0, .int .i64 0, .int .i64 0, .int .i64 0, .int .i64 0, .int .i64 0, .bool false, .int .i64 0, .slice none 0 0, .slice none 0 0] 48)))
      have k3 := ((Keeps.refl none' w2).alloc (.cells #[.int .i64 0, .int .i64 0, .bool false, .int .i64 0, .int .i64 0, .int .i64 0, .int .i64 0, .slice none 0 0, .slice none 0 0, .int .i64 0, .int .i64 0, .int .i64 0, .int .i64 0, .int .i64 0, .int .i64 0, .bool false, .int .i64 0, .slice none 0 0, .slice none 0 0] 48)).setRow (Nat.le_refl _) m.cells.toArray
      have LC := Lib.hid ((k3.later L (lt_of_block LB.out)).trans LB.out)
      have K3 := Lib.hid (K2.out.next k3)
      clear k3 LB K2 SG
      generalize (w2.alloc (.cells #[.int .i64 0, .int .i64 0, .bool false, .int .i64 0, .int .i64 0, .int .i64 0, .int .i64 0, .slice none 0 0, .slice none 0 0, .int .i64 0, .int .i64 0, .int .i64 0, .int .i64 0, .int .i64 0, .int .i64 0, .bool false, .int .i64 0, .slice none 0 0, .slice none 0 0] 48)).setRow w2.heap.size m.cells.toArray = w3 at *
      obtain ⟨M, hM⟩ : ∃ M, M = w2.heap.size := ⟨_, rfl⟩
      rw [← hM] at MB
      rw [← hM]
      clear hM
      have CC := HC.out l (List.mem_of_getElem? HL.out) m w3 ((All.one HP.out.1 HL.out).imp fun _ _ _ _ _ o => o.keep K3.out (fun _ _ h => h)) ((All.one HP.out.2 HM.out).imp fun _ _ _ _ _ o => o.keep K3.out (fun _ _ h => h))
      cases hs : sameP (er [l]) (er [m]) with
      | true =>
        rw [hs] at CC
        have CD := Lib.hid CC
        have E2 := Lib.hid (show er (ls.take (i + 1)) = er (ms.take (i + 1)) from by rw [er_take_more HL.out, er_take_more HM.out, E1.out, sameP_true.1 hs])
        clear hs CC
        go_wp2_with (first
          | (refine wpList_load_row rfl 48 _ rfl L rfl 48 l.cells.toArray (0, 0) _ LC.out Try.underlying48 rfl (LF.out l).1 ?_)
          | (refine wpList_load_row rfl 48 _ rfl M rfl 48 m.cells.toArray (0, 0) _ MB.out Try.underlying48 rfl (LF.out m).1 ?_)
          | ((with_reducible refine CD.out.mono ?_); rintro en w4 ⟨rfl, hk⟩; have K4 := Lib.hid (K3.out.next hk); clear hk))
        go_roundw
        case rel => exact ⟨i + 1, Nat.succ_le_of_lt hlt, by go_num, E2.out, K4.out⟩
        case measure => exact meas_lt hlt rfl
      | false =>
        rw [hs] at CC
        have CD := Lib.hid CC
        have NE := Lib.hid (show sameP (er ls) (er ms) = false from by
          cases hq : sameP (er ls) (er ms) with
          | false => rfl
          | true =>
            have h1 := er_at HL.out
            have h2 := er_at HM.out
            rw [sameP_true.1 hq, h2] at h1
            have h3 : er [l] = er [m] := by
              rw [er_cons, er_cons] at h1 ⊢
              have h4 := Option.some.inj h1
              rw [h4]
            rw [sameP_true.2 h3] at hs
            cases hs)
        clear hs CC
        go_wp2_with (first
          | (refine wpList_load_row rfl 48 _ rfl L rfl 48 l.cells.toArray (0, 0) _ LC.out Try.underlying48 rfl (LF.out l).1 ?_)
          | (refine wpList_load_row rfl 48 _ rfl M rfl 48 m.cells.toArray (0, 0) _ MB.out Try.underlying48 rfl (LF.out m).1 ?_)
          | ((with_reducible refine CD.out.mono ?_); rintro en w4 ⟨rfl, hk⟩; have K4 := Lib.hid (K3.out.next hk); clear hk))
        go_ret
        exact ⟨by rw [NE.out]; rfl, K4.out⟩
    · obtain rfl : i = n := by omega
      have tk : decide ((i : Int) < (i : Int)) = false := by simp
      have FA := Lib.hid (show sameP (er ls) (er ms) = true from by
        rw [sameP_true]
        have := E1.out
        rw [List.take_of_length_le (by have := HN.out.1; omega), List.take_of_length_le (by have := HN.out.2.1; omega)] at this
        exact this)
      go_wp2_with fail
      go_ret
      exact ⟨by rw [FA.out]; rfl, K.out⟩
/-- Lists of layers compared, whatever they are. -/
theorem sames_of (ls : List Loc) (H : ∀ l ∈ ls, SameOne l) : Sames ls := by
  intro ms h g w R G P Q
  have hl : ls.length = h.n := by
    have h1 := R.1.len
    rw [flat_length] at h1
    omega
  have gl : ms.length = g.n := by
    have h1 := G.1.len
    rw [flat_length] at h1
    omega
  by_cases hn : h.n = g.n
  · obtain ⟨a, n, c⟩ := h
    obtain ⟨a', n', c'⟩ := g
    simp only at hn hl gl
    subst hn
    by_cases h0 : n = 0
    · subst h0
      obtain rfl := List.eq_nil_of_length_eq_zero hl
      obtain rfl := List.eq_nil_of_length_eq_zero gl
      rw [show sameP (er []) (er []) = true from by rw [er, sameP]]
      exact sames_nil a a' c c' w
    · cases a with
      | none => exact absurd (R.1.abs rfl).1 h0
      | some x =>
        cases a' with
        | none => exact absurd (G.1.abs rfl).1 h0
        | some x' =>
          obtain ⟨h1, -, -⟩ := R.1.at' x rfl
          obtain ⟨g1, -, -⟩ := G.1.at' x' rfl
          obtain ⟨b, o, sp⟩ := x
          obtain ⟨b', o', sp'⟩ := x'
          simp only at h1 g1
          subst h1
          subst g1
          exact sames_some ls H ms b o n c b' o' c' w R G P Q
  · have e : sameP (er ls) (er ms) = false := by
      cases hq : sameP (er ls) (er ms) with
      | false => rfl
      | true =>
        have := sameP_true.1 hq
        exact absurd (by rw [← hl, ← gl, ← er_length, this, er_length]) hn
    rw [e]
    exact sames_no ms ls h g w hn
theorem sames_fuel : ∀ (n : Nat) (ls : List Loc), SizeOf.sizeOf ls ≤ n → Sames ls
  | 0, ls, h => by cases ls <;> simp at h
  | n + 1, ls, h => sames_of ls (fun l hl => by
    cases l with
    | mk d p m q k kids =>
      have hs := List.sizeOf_lt_of_mem hl
      simp only [Loc.mk.sizeOf_spec] at hs
      exact sameOne (.mk d p m q k kids) (sames_fuel n kids (by omega)))
theorem sames_any (ls : List Loc) : Sames ls := sames_fuel _ ls (Nat.le_refl _)
/-- Documents compared. -/
def docB (x y z : Int) (ls : List Lay) (x' y' z' : Int) (ms : List Lay) : Bool := decide (x = x') && (decide (y = y') && (decide (z = z') && sameP ls ms))
set_option maxRecDepth 100000 in
set_option maxHeartbeats 1600000 in
theorem same13 (x y z : Int) (h : Hd) (ls : List Loc) (x' y' z' : Int) (g : Hd) (ms : List Loc) (w : World) (D : DocV w h ls) (E : DocV w g ms) :
    Calls Try.prog 13 #[docV x y z h, docV x' y' z' g] w fun en w' => en = .returned (.bool (docB x y z (er ls) x' y' z' (er ms))) ∧ Keeps none' w w' := by
  have HD := Lib.hid (And.intro (show ReadR w 48 19 h (flat ls) ∧ Rep w ls from ⟨D.row, D.rep⟩) (show ReadR w 48 19 g (flat ms) ∧ Rep w ms from ⟨E.row, E.rep⟩))
  clear D E
  have K0 := Lib.hid (((Keeps.refl none' w).alloc (.cells #[.int .i64 x, .int .i64 y, .int .i64 z, .slice h.a h.n h.c] 25)).alloc (.cells #[.int .i64 x', .int .i64 y', .int .i64 z', .slice g.a g.n g.c] 25))
  have A0 := Lib.hid ((Dc.new w x y z h).later ((Keeps.refl none' _).alloc (.cells #[.int .i64 x', .int .i64 y', .int .i64 z', .slice g.a g.n g.c] 25)))
  have B0 := Lib.hid (Dc.new (w.alloc (.cells #[.int .i64 x, .int .i64 y, .int .i64 z, .slice h.a h.n h.c] 25)) x' y' z' g)
  have hs1 : (w.alloc (.cells #[.int .i64 x, .int .i64 y, .int .i64 z, .slice h.a h.n h.c] 25)).heap.size = w.heap.size + 1 := by simp
  rw [hs1] at B0
  clear hs1
  have a0 := A0.out.c0
  have a1 := A0.out.c1
  have a2 := A0.out.c2
  have a3 := A0.out.c3
  have b0 := B0.out.c0
  have b1 := B0.out.c1
  have b2 := B0.out.c2
  have b3 := B0.out.c3
  unfold docV
  go_enter Try.func13, Try.ntmps13
  by_cases t0 : x = x'
  · have p0 : (x == x') = true := by simp [t0]
    have q0 : decide (x = x') = true := by simp [t0]
    have T0 := Lib.hid t0
    clear t0
    by_cases t1 : y = y'
    · have p1 : (y == y') = true := by simp [t1]
      have q1 : decide (y = y') = true := by simp [t1]
      have T1 := Lib.hid t1
      clear t1
      by_cases t2 : z = z'
      · have p2 : (z == z') = true := by simp [t2]
        have q2 : decide (z = z') = true := by simp [t2]
        have T2 := Lib.hid t2
        clear t2
        have HR := Lib.hid (show docB x y z (er ls) x' y' z' (er ms) = sameP (er ls) (er ms) from by simp [docB, T0.out, T1.out, T2.out])
        have CE := Lib.hid (sames_any ls ms h g _ (HD.out.1.1.keep K0.out (fun _ _ h => h)) (HD.out.2.1.keep K0.out (fun _ _ h => h)) (HD.out.1.2.later K0.out) (HD.out.2.2.later K0.out))
        go_wp2_with ((with_reducible refine CE.out.mono ?_); rintro en w2 ⟨rfl, hk⟩; have K2 := Lib.hid (K0.out.next hk); clear hk)
        go_ret
        exact ⟨by rw [HR.out]; rfl, K2.out⟩
      · have p2 : (z == z') = false := by simp [t2]
        have q2 : decide (z = z') = false := by simp [t2]
        have HR := Lib.hid (show docB x y z (er ls) x' y' z' (er ms) = false from by simp [docB, t2])
        clear t2
        go_wp2_with fail
        go_ret
        exact ⟨by rw [HR.out]; rfl, K0.out⟩
    · have p1 : (y == y') = false := by simp [t1]
      have q1 : decide (y = y') = false := by simp [t1]
      have HR := Lib.hid (show docB x y z (er ls) x' y' z' (er ms) = false from by simp [docB, t1])
      clear t1
      go_wp2_with fail
      go_ret
      exact ⟨by rw [HR.out]; rfl, K0.out⟩
  · have p0 : (x == x') = false := by simp [t0]
    have q0 : decide (x = x') = false := by simp [t0]
    have HR := Lib.hid (show docB x y z (er ls) x' y' z' (er ms) = false from by simp [docB, t0])
    clear t0
    go_wp2_with fail
    go_ret
    exact ⟨by rw [HR.out]; rfl, K0.out⟩
end Go.Proofs.Ytfcpbpfemmdklaa
