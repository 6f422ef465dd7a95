/- The walk of ranked. -/
import Derived.Test.YtoiknbbimgeihaaXC
namespace Go.Proofs.Ytoiknbbimgeihaa
open Go.RowKit
set_option linter.unusedVariables false

theorem wpList_append_ints {w : World} {ops : Array Oper} {rest : List Oper} {o : Oper} {a : Act} {Q : Exit → Act → World → Prop} (hgd : o.guard = none) (s x : Operand) (ho : o.op = .call { callee := .builtin .append, args := #[s, x], argTypes := #[22, 22] })
    (base n : Nat) (v : Value) (xs : List Int) (hs : a.eval s = v) (hown : w.ownsRow base 3 1 v n (vals xs))
    (ad : Option Addr) (m c : Nat) (ds : List Int) (hx : a.eval x = .slice ad m c) (hb : Ints w ad m ds) (hc : ad = none → m = 0 ∧ c = 0) (hn : n ≤ 33554432) (hm : m ≤ 33554432) (hbase : base ≤ w.heap.size)
    (h : ∀ aa cap w', w'.ownsRow base 3 1 (.slice aa (n + m) cap) (n + m) (vals (xs ++ ds)) → w.grownBy w' v.ownBlock → ((Value.slice aa (n + m) cap).ownBlock = v.ownBlock ∨ (Value.slice aa (n + m) cap).ownBlock = some w.heap.size) → wpList Try.prog ops Q rest (a.put o.dst (.slice aa (n + m) cap)) w') :
    wpList Try.prog ops Q (o :: rest) a w := by
  refine wpList_plain hgd fun K hK => ?_
  obtain ⟨aa, cap, w', hr, h1, h2, h3⟩ := run_append_ints w o.type base n v xs hown ad m c ds hb hc hn hm hbase
  unfold Oper.wp execOp
  simp only [ho, resolve, invoke, builtin, Sem.run_bind, Sem.run_pure, Result.andThen_ok, List.map_toArray, List.map_cons, List.map_nil, hs, hx, hr]
  exact hK _ _ (h aa cap w' h1 h2 h3)
theorem grown_below {B : Nat} {w w1 w2 : World} {row : Option Nat} (hB : B ≤ w.heap.size) (h : Below B w w1) (hg : w1.grownBy w2 row) (hv : ∀ k, row = some k → B ≤ k) : Below B w w2 :=
  h.trans ⟨hg.os, hg.tape, hg.output, hg.size, fun k hk => hg.block k (Nat.lt_of_lt_of_le hk (Nat.le_trans hB h.size)) (fun e => by have := hv k e.symm; omega)⟩
theorem own_lt {w : World} {B n : Nat} {v : Value} {xs : List Value} (h : w.ownsRow B 3 1 v n xs) : ∀ k, v.ownBlock = some k → B ≤ k ∧ k < w.heap.size := by
  intro k hk
  rcases h.2 with ⟨rfl, _⟩ | ⟨g, cap, cur, rfl, hb, hg, _⟩
  · cases hk
  · cases hk
    refine ⟨hb, ?_⟩
    rcases Nat.lt_or_ge g w.heap.size with hlt | hge
    · exact hlt
    · rw [Array.getElem?_eq_none hge] at hg; cases hg
theorem one_ints (w : World) (z : Int) (h : -9223372036854775808 ≤ z ∧ z ≤ 9223372036854775807) : Ints (w.alloc (.cells #[.int .i64 z] 3)) (some ⟨w.heap.size, 0, none⟩) 1 [z] := by
  refine ⟨rfl, fun x hx => by simp at hx; omega, fun _ => ⟨_, 0, rfl, fun j x hj => ?_⟩⟩
  rw [World.cell?_alloc_mark, Nat.zero_add]
  match j, hj with
  | 0, hj => cases hj; rfl
  | j + 1, hj => simp at hj

theorem own_row {w : World} {B n c : Nat} {aa : Option Addr} {us : List Nat} (h : w.ownsRow B 3 1 (.slice aa n c) n (vals (natZ us))) (hn : 0 < n) :
    ∃ g, aa = some ⟨g, 0, none⟩ ∧ B ≤ g ∧ g < w.heap.size ∧ us.length = n ∧ ∀ j i, us[j]? = some i → w.cell? ⟨g, j, none⟩ = some (.int .i64 (i : Nat)) ∧ w.frozen? ⟨g, j, none⟩ = false := by
  obtain ⟨hl, h2⟩ := h
  rw [vals_length, natZ_length] at hl
  rcases h2 with ⟨_, e2⟩ | ⟨g, cap, cur, e, hB, hh, p1, p2, p3, p4⟩
  · omega
  · cases e
    have hg : g < w.heap.size := by
      rcases Nat.lt_or_ge g w.heap.size with hlt | hge
      · exact hlt
      · rw [Array.getElem?_eq_none hge] at hh; cases hh
    refine ⟨g, rfl, hB, hg, by omega, fun j i hj => ?_⟩
    have hj2 : (vals (natZ us))[j]? = (cur.toList.take (n * 1))[j]? := by rw [p4]
    have hjl : j < n := by have := (List.getElem?_eq_some_iff.1 hj).1; omega
    unfold vals natZ at hj2
    rw [List.getElem?_take_of_lt (by omega), List.getElem?_map, List.getElem?_map, hj] at hj2
    have hj3 : cur[j]? = some (.int .i64 (i : Nat)) := by simpa using hj2.symm
    exact ⟨by simp [World.cell?, hh, hj3], by simp [World.frozen?, hh]⟩

def RankSay (w : World) (zs : List Int) (e : Ending) (w' : World) : Prop :=
  ∃ aa cap us, e = .returned (.slice aa us.length cap) ∧ us.length ≤ cap ∧ Ranked zs us ∧ Ints w' aa us.length (natZ us) ∧ (∀ x, aa = some x → w.heap.size ≤ x.block) ∧ Below w.heap.size w w'
theorem zs_getD {zs : List Int} {i : Nat} {z : Int} (h : zs[i]? = some z) : zs.getD i 0 = z := by rw [List.getD_eq_getElem?_getD, h]; rfl
theorem natZ_append (us vs : List Nat) : natZ (us ++ vs) = natZ us ++ natZ vs := by simp [natZ]

set_option maxRecDepth 100000 in
set_option maxHeartbeats 1600000 in
theorem ranked_any (w : World) (a : Option Addr) (n c : Nat) (zs : List Int) (h : Ints w a n zs) (hn : n ≤ 16777216) :
    Calls Try.prog 23 #[.slice a n c] w (RankSay w zs) := by
  have hbox : (w.alloc (.cells #[.slice a n c] 22)).cell? ⟨w.heap.size, 0, none⟩ = some (.slice a n c) := by
    rw [World.cell?_alloc_mark]; rfl
  have HZ := Lib.hid h
  have kb : Below w.heap.size w (w.alloc (.cells #[.slice a n c] 22)) := (Below.refl _ _).alloc (Nat.le_refl _) _
  have hs0 : (w.alloc (.cells #[.slice a n c] 22)).heap.size = w.heap.size + 1 := Array.size_push _
  have HS := Lib.hid hs0
  have ZB := Lib.hid (h.below kb)
  have KB := Lib.hid kb
  have HBOX := Lib.hid hbox
  clear h hs0 kb
  go_enter Try.func23, Try.ntmps23
  go_wp2_with fail
  generalize w.alloc (.cells #[.slice a n c] 22) = w1 at *
  go_loopw [3, 8] (fun v cnt wr => ∃ (i : Nat) (aa : Option Addr) (k cap : Nat), i ≤ n ∧ cnt = .int .i64 i ∧ v = .slice aa k cap ∧ (usedTo zs i).length = k ∧ wr.ownsRow w1.heap.size 3 1 (.slice aa k cap) k (vals (natZ (usedTo zs i))) ∧ Below w1.heap.size w1 wr) (fun _ cnt _ => n - (intOf cnt).toNat)
  case atStart => exact ⟨0, none, 0, 0, Nat.zero_le _, rfl, rfl, rfl, World.ownsRow_nil _ _ _ _, Below.refl _ _⟩
  case round =>
    obtain ⟨i, aa, k, cap, hi, rfl, rfl, hk, hown, hb⟩ := hrel
    by_cases hlt : i < n
    · obtain ⟨b, off, z, rfl, hz, hzb, hcell⟩ := (ZB.out.below hb).at hlt
      have HG := Lib.hid (zs_getD hz)
      have HU := Lib.hid (usedTo_succ zs i)
      have HO := Lib.hid hown
      have HB := Lib.hid hb
      have HK := Lib.hid hk
      have hkn := usedTo_length zs i
      rw [hk] at hkn
      clear hz hown hb hk hzb
      by_cases hz0 : z = 0
      · subst hz0
        have X : usedTo zs (i + 1) = usedTo zs i := by rw [HU.out, HG.out]; simp
        have X := Lib.hid X
        go_wp2_with fail
        go_roundw
        case rel => exact ⟨i + 1, aa, k, cap, by omega, by go_num, rfl, by rw [X.out]; exact HK.out, by rw [X.out]; exact HO.out, HB.out⟩
        case measure => simp [intOf]; omega
      · have X : usedTo zs (i + 1) = usedTo zs i ++ [i] := by rw [HU.out, HG.out, if_pos hz0]
        have X := Lib.hid X
        have u1 : decide (z = 0) = false := by simpa using hz0
        have u2 : (z == 0) = false := by simpa using hz0
        have u3 : (z != 0) = true := by simpa using hz0
        have u4 : decide (¬ z = 0) = true := by simpa using hz0
        have hsz : w1.heap.size ≤ wr.heap.size := HB.out.size
        have hpush : (wr.alloc (.cells #[.int .i64 i] 3)).heap.size = wr.heap.size + 1 := Array.size_push _
        have HO2 := Lib.hid (own_kept (w' := wr.alloc (.cells #[.int .i64 i] 3)) HO.out (fun q hq => Below.heap_alloc _ _ _ (own_lt HO.out q hq).2))
        go_wp2_with (at_builtin; go_must (refine wpList_append_ints rfl (.tmp 15) (.tmp 17) rfl w1.heap.size k (.slice aa k cap) (natZ (usedTo zs i)) rfl ?e1 (some ⟨wr.heap.size, 0, none⟩) 1 1 [(i : Int)] rfl ?e2 (by intro e; cases e) (by omega) (by omega) ?e3 ?e4))
        case e1 => exact HO2.out
        case e2 => exact one_ints wr i (by omega)
        case e3 => rw [hpush]; omega
        case e4 =>
          intro aa2 cap2 w2 hown hg hat
          have hk2 : Below w1.heap.size w1 w2 := grown_below (Nat.le_refl _) (HB.out.alloc hsz _) hg (fun q e => (own_lt HO.out q e).1)
          rw [show natZ (usedTo zs i) ++ [(i : Int)] = natZ (usedTo zs (i + 1)) by rw [X.out, natZ_append]; rfl] at hown
          have Y := Lib.hid (And.intro hown hk2)
          clear hown hk2 hg hat
          go_wp2_with fail
          go_roundw
          case rel => exact ⟨i + 1, aa2, k + 1, cap2, by omega, by go_num, rfl, by rw [X.out, List.length_append, HK.out]; rfl, Y.out.1, Y.out.2⟩
          case measure => simp [intOf]; omega
    · obtain rfl : i = n := by omega
      have HLN := HZ.out.1
      subst HLN
      have HK := Lib.hid hk
      have HB1 := Lib.hid hb
      have KW := Lib.hid (below_more KB.out hb (Nat.le_refl _))
      by_cases hk0 : k = 0
      · subst hk0
        have hnil : usedTo zs zs.length = [] := List.eq_nil_of_length_eq_zero hk
        have HR : Ranked zs [] := ⟨by rw [hnil], List.Pairwise.nil⟩
        have HR := Lib.hid HR
        have HAA : ∀ x, aa = some x → w.heap.size ≤ x.block := fun x hx => by
          have h5 := (own_lt hown x.block (by rw [hx]; rfl)).1
          have h6 := HS.out
          omega
        have HAA := Lib.hid HAA
        have C0 : Calls Try.prog 27 #[.slice aa 0 cap, .func (.func 28) #[] #[.pointer (some ⟨w.heap.size, 0, none⟩)]] wr fun e w' => e = .returned (.tuple #[]) ∧ w' = wr :=
          AnyF.slices_SortFunc_none (P := Try.prog) (ρ := sortL_ren) { sortL with } aa cap _ wr
        have C0 := Lib.hid C0
        clear hown hb hk hnil hi hlt
        go_wp2_with fail
        refine C0.out.mono ?_
        rintro e w2 ⟨rfl, hw⟩
        obtain rfl := hw.symm
        go_wp2_with fail
        go_ret
        exact ⟨aa, cap, [], rfl, Nat.zero_le _, HR.out, ⟨rfl, fun z hz => by simp [natZ] at hz, fun hp => absurd hp (by simp)⟩, HAA.out, KW.out⟩
      · have hcp : k ≤ cap := by
          rcases hown.2 with ⟨_, e2⟩ | ⟨g, cp, cur, e, hB, hh, p1, _⟩
          · omega
          · cases e; exact p1
        obtain ⟨g, rfl, hBg, hgl, hul, hrow⟩ := own_row hown (by omega)
        have hm : 0 < zs.length := by have := usedTo_length zs zs.length; omega
        obtain ⟨m, hm⟩ : ∃ m, zs.length = m + 1 := ⟨zs.length - 1, by omega⟩
        have C0 := sort_any w wr zs m hm a c (by have := ZB.out.below hb; rwa [hm] at this) w.heap.size g cap (usedTo zs zs.length) (fun i h => by have := (usedTo_lt _ _ _ h).1; omega) (by omega) (by have := usedTo_length zs zs.length; omega)
          (by rw [← hm]; exact (World.cell?_of_block (w := w1) (hb.block _ (by rw [HS.out]; exact Nat.lt_succ_self _))).trans HBOX.out) hrow KW.out (by have := HS.out; omega)
          (fun x hx => by
            obtain ⟨b, off, z, e, _, _, hcl⟩ := HZ.out.at (i := 0) (by omega)
            rw [hx] at e
            cases e
            have := World.block_lt_of_cell? w (⟨b, off + 0, none⟩ : Addr) hcl
            have h5 := HS.out
            simp only at this ⊢
            omega) (by have := HS.out; omega) hgl (by have := HS.out; omega)
        rw [hk] at C0
        have C0 := Lib.hid C0
        have HP := Lib.hid (usedTo_nodup zs zs.length)
        clear hown hb hrow hi hlt hbox
        go_wp2_with fail
        refine C0.out.mono ?_
        rintro e w2 ⟨rfl, hb2, vs, hp, hord, hints⟩
        have HF := Lib.hid (And.intro (And.intro hb2 hp) (And.intro (hord HP.out) hints))
        have hvl : vs.length = k := by rw [hp.length_eq, hk]
        clear hb2 hp hord hints
        subst hvl
        go_wp2_with fail
        go_ret
        exact ⟨_, cap, vs, rfl, hcp, ⟨HF.out.1.2, HF.out.2.1⟩, HF.out.2.2, fun x hx => by cases hx; have := HS.out; simp only; omega, HF.out.1.1⟩
end Go.Proofs.Ytoiknbbimgeihaa
