/- The blocks of a state are new; the document's example. -/
import Derived.Test.YtgonpaofickffaaTV
import Derived.Test.YtgonpaofickffaaTJ
import Derived.Test.YtgonpaofickffaaTL
namespace Go.Proofs.Ytgonpaofickffaa
open Go.RowKit Go.Maps
set_option linter.unusedVariables false

theorem Keeps.over {w a b : World} {X : Nat → Prop} (h : Keeps none' w a) (k : Keeps X a b) (hX : ∀ i, X i → w.heap.size ≤ i) : Keeps none' w b :=
  h.trans k (fun i hi hx => by have := hX i hx; omega)
/-- All blocks of a state are from B on. -/
def Low (S : St) (B : Nat) : Prop := ∀ b, Foot S b → B ≤ b
theorem Low.live {S : St} {B : Nat} (h : Low S B) : ∀ b, b ∈ S.live → B ≤ b := fun b hb => h b (.inr (.inr hb))
theorem low_new (A cap B : Nat) (h : B ≤ A) : Low (St.new A cap) B := by
  rintro b (rfl | ⟨k, p, hp, _⟩ | hb)
  · exact h
  · simp [St.new] at hp
  · simp [St.new] at hb
theorem Low.more {S : St} {B : Nat} (h : Low S B) {q : Pl} (h1 : B ≤ q.pb) (h2 : B ≤ q.mb) : Low (S.more q) B := by
  rintro b (rfl | ⟨k, p, hp, hb⟩ | hb)
  · exact h _ (.inl rfl)
  · simp only [St.more, List.getElem?_append] at hp
    split at hp
    · exact h b (.inr (.inl ⟨k, p, hp, hb⟩))
    · rw [List.getElem?_singleton] at hp
      split at hp
      · cases hp
        rcases hb with rfl | rfl <;> assumption
      · cases hp
  · exact h b (.inr (.inr hb))
theorem Low.drop {S : St} {B : Nat} (h : Low S B) {k : Nat} {p : Pl} (hk : S.ps[k]? = some p) : Low (S.drop k p) B := by
  rintro b (rfl | ⟨m, q, hq, hb⟩ | hb)
  · exact h _ (.inl rfl)
  · simp only [St.drop] at hq
    rw [List.getElem?_set] at hq
    split at hq
    · split at hq
      · cases hq
        exact h b (.inr (.inl ⟨k, p, hk, hb⟩))
      · cases hq
    · exact h b (.inr (.inl ⟨m, q, hq, hb⟩))
  · simp only [St.drop, List.mem_filter] at hb
    exact h b (.inr (.inr hb.1))
theorem Low.wrote {S S0 : St} {B B' k : Nat} {p p' : Pl} {ds : List Plc} {xf xt yf yt v : Nat} (h : Low S0 B) (hw : Wrote B' S0 S k p ds xf xt yf yt v p') (hk : S0.ps[k]? = some p) (hB : B ≤ B') : Low S B := by
  intro b hb
  rcases hw.foot hk hb with h1 | h1
  · exact h b h1
  · omega

def Yes (w : World) (e : Ending) (w' : World) : Prop := e = .returned (.bool true) ∧ Keeps none' w w'
set_option maxRecDepth 100000 in
set_option maxHeartbeats 3200000 in
theorem anchor_any (w : World) : Calls Try.prog 8 #[] w (Yes w) := by
  have C1 := Lib.hid (new_yes 2 w (by omega))
  go_enter Try.func8, Try.ntmps8
  go_wp2_with fail
  refine C1.out.mono ?_
  rintro e w1 ⟨rfl, hR, hK, -⟩
  have L1 := Lib.hid (low_new w.heap.size 2 w.heap.size (Nat.le_refl _))
  have C2 := Lib.hid (plane_yes w1 _ hR 32 16 (by omega) (by omega) (by simp [St.new]))
  have K1 := Lib.hid hK
  clear hR hK C1
  obtain ⟨A, hA⟩ : ∃ A, A = w.heap.size := ⟨_, rfl⟩
  rw [← hA] at C2 L1
  rw [← hA]
  have HA := Lib.hid hA
  clear hA
  go_wp2_with fail
  refine C2.out.mono ?_
  rintro e w2 ⟨p, rfl, hR, hK, hW, hH, hT, hL, hpb, hmb⟩
  have K2 := Lib.hid (K1.out.trans hK (fun _ _ h => h))
  have hs1 := K1.out.size
  have L2 := Lib.hid (L1.out.more (q := p) (by have := HA.out; omega) (by have := HA.out; omega))
  have hps : (St.new A 2 |>.more p).ps[0]? = some p := rfl
  have px0 : ∀ x y, px (St.new A 2 |>.more p) p x y = 0 := fun x y => by unfold px; rw [hT]
  have C3 := Lib.hid (set_does w2 _ hR 0 p hps 0 0 5 (by omega) (by omega) (by omega) (by rw [px0]; omega) (.inr (by simp [St.more, St.new])))
  have R2 := Lib.hid hR
  have PF := Lib.hid (And.intro hW (And.intro hH (And.intro hT hL)))
  clear hR hK hW hH hT hL hpb hmb hs1 C2 K1 L1 px0 hps
  go_wp2_with fail
  refine C3.out.mono ?_
  rintro e w3 ⟨rfl, t1, S', ho, hR, hK⟩
  have FACT : ∃ (S2 : St) (p2 : Pl), S'.paint t1 (fun j => if j = 0 % 16 * 16 + 0 % 16 then 5 else S'.pix t1 j) = S2 ∧ S2.ps = [p2] ∧ S2.live = [t1] ∧ S2.cap = 2 ∧ S2.A = A ∧ p2.pb = p.pb ∧ p2.W = 32 ∧ p2.H = 16 ∧ p2.T 0 0 = some t1 ∧ p2.T 1 0 = none ∧ S2.home t1 = (0, 0) ∧ S2.pix t1 1 = 0 ∧ Low S2 A := by
    rcases ho with ⟨⟨t, e1, e2⟩, e3, rfl⟩ | ⟨-, e2, rfl⟩
    · rw [PF.out.2.2.1] at e1; cases e1
    · refine ⟨_, { p with T := upd p.T 0 0 t1, L := if p.T 0 0 = none then p.L ++ [(0, 0)] else p.L }, rfl, rfl, rfl, rfl, rfl, rfl, PF.out.1, PF.out.2.1, by simp [upd], by simp [upd, PF.out.2.2.1], by simp [St.paint, St.own], ?_, ?_⟩
      · simp [St.paint, St.own, pixAt, PF.out.2.2.1]
      · intro b hb
        have hs2 := K2.out.size
        have hA := HA.out
        rcases hb with rfl | ⟨k, q, hq, hb⟩ | hb
        · exact L2.out _ (.inl rfl)
        · cases k with
          | zero =>
            have : q = { p with T := upd p.T 0 0 t1, L := if p.T 0 0 = none then p.L ++ [(0, 0)] else p.L } := by
              have e : some { p with T := upd p.T 0 0 t1, L := if p.T 0 0 = none then p.L ++ [(0, 0)] else p.L } = some q := hq
              cases e; rfl
            subst this
            exact L2.out b (.inr (.inl ⟨0, p, rfl, hb⟩))
          | succ k => exact absurd hq (by simp [St.paint, St.own, St.more, St.new])
        · have : b = t1 := by simpa [St.paint, St.own, St.more, St.new] using hb
          omega
  obtain ⟨S2, p2, hS2, f1, f2, f3, f4, f5, f6, f7, f8, f9, f10, f11, f12⟩ := FACT
  rw [hS2] at hR
  have K3 := Lib.hid (K2.out.over hK (fun b hb => by have := L2.out b hb; have := HA.out; omega))
  have hp2 : S2.ps[0]? = some p2 := by rw [f1]; rfl
  have C4 := snap_any w3 S2 hR 0 p2 hp2 (by rw [f1]; simp)
  rw [f5] at C4
  have C4 := Lib.hid C4
  have LIV := Lib.hid f12
  have FA := Lib.hid (And.intro f1 (And.intro f2 (And.intro f3 (And.intro f4 (And.intro f5 (And.intro f6 (And.intro f7 (And.intro f8 (And.intro f9 (And.intro f10 f11))))))))))
  clear ho hS2 hR hK f1 f2 f3 f4 f5 f6 f7 f8 f9 f10 f11 f12 hp2 K2 L2 R2 PF C3
  go_wp2_with fail
  refine C4.out.mono ?_
  rintro e w4 ⟨q, rfl, hR, hK, q1, q2, q3, q4, q5, q6⟩
  obtain ⟨f1, f2, f3, f4, f5, f6, f7, f8, f9, f10, f11⟩ := FA.out
  have hs3 := K3.out.size
  have L4 := Lib.hid (LIV.out.more (q := q) (by have := HA.out; omega) (by have := HA.out; omega))
  have K4 := Lib.hid (K3.out.over hK (fun b hb => by have := LIV.out.live b hb; have := HA.out; omega))
  have hps : (S2.more q).ps = [p2, q] := by simp [St.more, f1]
  have hp0 : (S2.more q).ps[0]? = some p2 := by rw [hps]; rfl
  have hq1 : (S2.more q).ps[1]? = some q := by rw [hps]; rfl
  have hna : ¬ aloneP (S2.more q) p2 0 0 := by
    rintro ⟨t, e1, e2⟩
    rw [f8] at e1
    cases e1
    rw [hps] at e2
    simp [cnt, q3, f8] at e2
  have hpx : px (S2.more q) p2 1 0 ≠ 6 := by
    show (match p2.T 0 0 with | none => 0 | some t => S2.pix t 1) ≠ 6
    rw [f8]
    show S2.pix t1 1 ≠ 6
    rw [f11]; omega
  have C5 := set_does w4 _ hR 0 p2 hp0 1 0 6 (by omega) (by omega) (by omega) hpx (.inr (by show S2.live.length < S2.cap; rw [f2, f3]; simp))
  rw [f5] at C5
  have C5 := Lib.hid C5
  have T1 := Lib.hid (hR.lt (b := t1) (.inr (.inr (by show t1 ∈ S2.live; rw [f2]; simp))))
  have FB := Lib.hid (And.intro hps (And.intro hna (And.intro q1 (And.intro q2 q3))))
  clear hR hK q1 q2 q3 q4 q5 q6 f1 f2 f3 f4 f5 f6 f7 f8 f9 f10 f11 hs3 hps hp0 hq1 hna hpx C4 LIV K3
  go_wp2_with fail
  refine C5.out.mono ?_
  rintro e w5 ⟨rfl, t2, S', ho, hR, hK⟩
  obtain ⟨f1, f2, f3, f4, f5, f6, f7, f8, f9, f10, f11⟩ := FA.out
  obtain ⟨hps, hna, q1, q2, q3⟩ := FB.out
  have FACT : ∃ (S4 : St) (p4 : Pl), S'.paint t2 (fun j => if j = 0 % 16 * 16 + 1 % 16 then 6 else S'.pix t2 j) = S4 ∧ S4.ps = [p4, q] ∧ S4.live = [t1, t2] ∧ S4.cap = 2 ∧ S4.A = A ∧ p4.pb = p.pb ∧ p4.W = 32 ∧ p4.H = 16 ∧ p4.T 0 0 = some t2 ∧ p4.T 1 0 = none ∧ S4.home t1 = (0, 0) ∧ S4.home t2 = (0, 0) ∧ S4.pix t1 1 = 0 ∧ S4.pix t2 1 = 6 ∧ t1 ≠ t2 ∧ Low S4 A := by
    rcases ho with ⟨h1, _⟩ | ⟨-, e2, rfl⟩
    · exact absurd h1 hna
    · have hne : t1 ≠ t2 := by have := T1.out; omega
      refine ⟨_, { p2 with T := upd p2.T 0 0 t2, L := if p2.T 0 0 = none then p2.L ++ [(0, 0)] else p2.L }, rfl, ?_, ?_, f3, f4, f5, f6, f7, by simp [upd], by simp [upd, f9], ?_, by simp [St.paint, St.own], ?_, by simp [St.paint, St.own], hne, ?_⟩
      · show (S2.more q).ps.set 0 _ = _
        rw [hps]; rfl
      · show S2.live ++ [t2] = _
        rw [f2]; rfl
      · simp [St.paint, St.own, St.more, hne, f10]
      · simp [St.paint, St.own, St.more, hne, f11]
      · intro b hb
        have hs2 := K4.out.size
        have hA := HA.out
        rcases hb with rfl | ⟨k, r, hr, hb⟩ | hb
        · exact L4.out _ (.inl rfl)
        · have hr2 : ((S2.more q).ps.set 0 { p2 with T := upd p2.T 0 0 t2, L := if p2.T 0 0 = none then p2.L ++ [(0, 0)] else p2.L })[k]? = some r := hr
          rw [List.getElem?_set] at hr2
          split at hr2
          · split at hr2
            · cases hr2
              exact L4.out b (.inr (.inl ⟨0, p2, by rw [hps]; rfl, hb⟩))
            · cases hr2
          · exact L4.out b (.inr (.inl ⟨k, r, hr2, hb⟩))
        · have : b ∈ S2.live ++ [t2] := hb
          rw [List.mem_append, List.mem_singleton] at this
          rcases this with h | h
          · exact L4.out b (.inr (.inr h))
          · omega
  obtain ⟨S4, p4, hS4, g1, g2, g3, g4, g5, g6, g7, g8, g9, g10, g11, g12, g13, g14, g15⟩ := FACT
  rw [hS4] at hR
  have K5 := Lib.hid (K4.out.over hK (fun b hb => by have := L4.out b hb; have := HA.out; omega))
  have L5 := Lib.hid g15
  have hfree : S4.free = 0 := by unfold St.free; rw [g2, g3]; rfl
  have hp0 : S4.ps[0]? = some p4 := by rw [g1]; rfl
  have hq1 : S4.ps[1]? = some q := by rw [g1]; rfl
  have C6 := free_any w5 S4 hR
  rw [hfree, g4] at C6
  have C6 := Lib.hid C6
  have C7 := at_in w5 S4 hR 1 q hq1 1 0 (by rw [q1, f6]; omega) (by rw [q2, f7]; omega)
  rw [show px S4 q 1 0 = 0 by show (match q.T 0 0 with | none => 0 | some t => S4.pix t 1) = 0; rw [q3, f8]; exact g12] at C7
  have C7 := Lib.hid C7
  have HR := Lib.hid hR
  have FC := Lib.hid (And.intro hfree (And.intro hp0 (And.intro hq1 (And.intro g1 (And.intro g2 (And.intro g3 (And.intro g4 (And.intro g5 (And.intro g6 (And.intro g7 (And.intro g8 (And.intro g9 (And.intro g10 (And.intro g11 (And.intro g13 g14)))))))))))))))
  have Q3 := Lib.hid (show q.T 0 0 = some t1 by rw [q3, f8])
  clear ho hS4 hR hK f1 f2 f3 f4 f5 f6 f7 f8 f9 f10 f11 hps hna q1 q2 q3 g1 g2 g3 g4 g5 g6 g7 g8 g9 g10 g11 g12 g13 g14 g15 hfree hp0 hq1 FA FB K4 L4 C5 T1
  go_wp2_with fail
  refine C6.out.mono ?_
  rintro e w' ⟨rfl, rfl⟩
  go_wp2_with fail
  refine C7.out.mono ?_
  rintro e w6 ⟨rfl, hK⟩
  obtain ⟨hfree, hp0, hq1, g1, g2, g3, g4, g5, g6, g7, g8, g9, g10, g11, g13, g14⟩ := FC.out
  have R6 := HR.out.later hK
  have K6 := Lib.hid (K5.out.trans hK (fun _ _ h => h))
  have C8 := set_full w6 S4 R6 0 p4 hp0 20 0 7 (by omega) (by omega) (by omega) (by show (match p4.T 1 0 with | none => 0 | some t => S4.pix t 4) ≠ 7; rw [g9]; simp) (by
    rintro ⟨t, e1, e2⟩
    rw [show p4.T (20 / 16) (0 / 16) = none from g9] at e1
    cases e1) hfree
  rw [g5] at C8
  have C8 := Lib.hid C8
  have HR6 := Lib.hid R6
  clear hK R6 hfree hp0 hq1 g1 g2 g3 g4 g5 g6 g7 g8 g9 g10 g11 g13 g14 C6 C7 HR
  go_wp2_with fail
  refine C8.out.mono ?_
  rintro e w7 ⟨rfl, hK⟩
  obtain ⟨hfree, hp0, hq1, g1, g2, g3, g4, g5, g6, g7, g8, g9, g10, g11, g13, g14⟩ := FC.out
  have R7 := HR6.out.later hK
  have K7 := Lib.hid (K6.out.trans hK (fun _ _ h => h))
  have C9 := Lib.hid (drop_any w7 S4 R7 1 q hq1)
  clear hK R7 hfree hp0 hq1 g1 g2 g3 g4 g5 g6 g7 g8 g9 g10 g11 g13 g14 C8 HR6
  go_wp2_with fail
  refine C9.out.mono ?_
  rintro e w8 ⟨rfl, hR, hK⟩
  obtain ⟨hfree, hp0, hq1, g1, g2, g3, g4, g5, g6, g7, g8, g9, g10, g11, g13, g14⟩ := FC.out
  have K8 := Lib.hid (K7.out.over hK (fun b hb => by have := L5.out b hb; have := HA.out; omega))
  have hg1 : goes S4 q t1 = true := by
    unfold goes
    rw [g10, g1]
    simp [Q3.out, cnt, g8, g14.symm]
  have hg2 : goes S4 q t2 = false := by
    unfold goes
    rw [g11]
    simp [Q3.out, g14]
  have hf1 : (S4.drop 1 q).free = 1 := by
    show S4.cap - (S4.live.filter (fun t => !goes S4 q t)).length = 1
    rw [g2, g3]
    simp [List.filter, hg1, hg2]
  have C10 := free_any w8 _ hR
  rw [hf1, show (S4.drop 1 q).A = A from g4] at C10
  have C10 := Lib.hid C10
  have C11 := at_in w8 _ hR 0 p4 (by show (S4.ps.set 1 _)[0]? = some p4; rw [g1]; rfl) 1 0 (by omega) (by omega)
  rw [show px (S4.drop 1 q) p4 1 0 = 6 by show (match p4.T 0 0 with | none => 0 | some t => S4.pix t 1) = 6; rw [g8]; exact g13, g5] at C11
  have C11 := Lib.hid C11
  clear hR hK hfree hp0 hq1 g1 g2 g3 g4 g5 g6 g7 g8 g9 g10 g11 g13 g14 hg1 hg2 hf1 C9 K7 K6 K5 L5 FC Q3
  go_wp2_with fail
  refine C10.out.mono ?_
  rintro e w' ⟨rfl, rfl⟩
  go_wp2_with fail
  refine C11.out.mono ?_
  rintro e w9 ⟨rfl, hK⟩
  have K9 := Lib.hid (K8.out.trans hK (fun _ _ h => h))
  clear hK
  go_wp2_with fail
  go_ret
  exact ⟨rfl, K9.out⟩
end Go.Proofs.Ytgonpaofickffaa
