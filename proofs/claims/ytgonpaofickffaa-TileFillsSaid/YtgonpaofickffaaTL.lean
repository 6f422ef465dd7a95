/- A snapshot; all tiles given back. -/
import Derived.Test.YtgonpaofickffaaTJ
import Derived.Test.YtgonpaofickffaaTK
import Derived.Laws.Externs
namespace Go.Proofs.Ytgonpaofickffaa
open Go.RowKit Go.Maps
set_option linter.unusedVariables false

theorem run_eql_map_nil (w : World) (p : Option Nat) : (binOp .eql 61 (.map p) (.map none)).run Try.prog w = .ok (.bool p.isNone) w := by
  have h := Try.underlying61
  have h2 : ∀ d, (Op.equalIn (d + 1) 61 (.map p) (.map none)).run Try.prog w = .ok p.isNone w := fun d => by cases p <;> simp [Op.equalIn, run_underlying h]
  simp only [binOp]
  simp [show Op.equal 61 (.map p) (.map none) = Op.equalIn (9999 + 1) 61 (.map p) (.map none) from rfl, h2]
theorem run_typeAssert_map (w : World) (v : Value) : (Instr.typeAssert (.iface 61 v) 20 61 false).run Try.prog w = .ok v w := by
  simp [Instr.typeAssert, run_underlying Try.underlying61, go_sem, Result.andThen]
theorem run_maps_clone {w : World} {r : Nat} {es : Array MapEntry} {clock : Nat} (t : TypeId) (hb : w.heap[r]? = some (.map es clock)) :
    (Extern.MapsClone.clone #[.iface t (.map (some r))]).run Try.prog w = .ok (.iface t (.map (some w.heap.size))) (w.alloc (.map es clock)) := by
  have e : Extern.MapsClone.clone #[.iface t (.map (some r))] = (getObj r >>= fun o => match o with
      | .map entries clock => (newObj (.map entries clock) >>= fun n => pure (.iface t (.map (some n))))
      | _ => stuck "maps.clone: a map expected") := rfl
  rw [e]
  simp [MapKept.run_getObj_map hb, Result.andThen, go_sem]
set_option maxRecDepth 100000 in
theorem clone_any (w : World) (m : Nat) (T : Nat → Nat → Option Nat) (L : List (Nat × Nat)) (hT : Tab w m T L) :
    Calls Try.prog 38 #[.map (some m)] w fun e w' => e = .returned (.map (some w.heap.size)) ∧ Tab w' w.heap.size T L ∧ Keeps none' w w' ∧ w'.heap.size = w.heap.size + 1 := by
  obtain ⟨⟨D, ⟨es, clock, hb, h1⟩, h2⟩, h3, h4, h5⟩ := hT
  have hq := run_eql_map_nil
  have END := Lib.hid (show Tab (w.alloc (.map es clock)) w.heap.size T L ∧ Keeps none' w (w.alloc (.map es clock)) ∧ (w.alloc (.map es clock)).heap.size = w.heap.size + 1 from
    ⟨⟨⟨D, ⟨es, clock, heap_alloc_new _ _, h1⟩, h2⟩, h3, h4, h5⟩, (Keeps.refl _ _).alloc _, by simp⟩)
  have HB := Lib.hid hb
  clear h1 h2 h3 h4 h5 hb
  go_enter Try.func38, Try.ntmps38
  go_wp2_with fail
  rw [run_callFunc_extern Try.func45 (by kernel_rfl) (by kernel_rfl) (by kernel_rfl) (e := Extern.MapsClone.clone) (by kernel_rfl), run_maps_clone 61 HB.out]
  simp only [Result.andThen]
  rw [Oper.upon_value]
  go_wp2_with fail
  rw [run_typeAssert_map]
  simp only [Result.andThen]
  rw [Oper.upon_value]
  go_wp2_with fail
  go_ret
  exact ⟨rfl, END.out⟩
theorem enter38 : ∀ (vs : Array Value) (w : World), (callFunc 38 vs).run Try.prog w = .ok (.enter 38 vs) w := enters_of Try.func38 (by kernel_rfl) rfl
/-- The tiles while a snapshot counts itself in. -/
def Snd (S : St) (p : Pl) (w : World) (left : Nat → Nat → Bool) : Prop :=
  ∀ t ∈ S.live, TileAt w t (cnt S.ps (S.home t) t + (if p.T (S.home t).1 (S.home t).2 = some t ∧ left (S.home t).1 (S.home t).2 = false then 1 else 0)) (S.pix t)
set_option maxHeartbeats 1600000 in
set_option maxRecDepth 100000 in
theorem snap_any (w : World) (S : St) (h : Rep w S) (k : Nat) (p : Pl) (hk : S.ps[k]? = some p) (hm : S.ps.length < 1048576) :
    Calls Try.prog 18 #[.pointer (some ⟨p.pb, 0, none⟩)] w fun e w' => ∃ q : Pl, e = .returned (.pointer (some ⟨q.pb, 0, none⟩)) ∧ Rep w' (S.more q) ∧ Keeps (fun b => b ∈ S.live) w w' ∧
      q.W = p.W ∧ q.H = p.H ∧ q.T = p.T ∧ q.L = p.L ∧ w.heap.size ≤ q.pb ∧ w.heap.size ≤ q.mb := by
  have H := Lib.hid h
  have HK := Lib.hid hk
  obtain ⟨x0, x1, x2, x3⟩ := h.cells hk
  have TB := Lib.hid (h.plane k p hk).2.1
  have HM := Lib.hid (show ∀ h t, cnt S.ps h t ≤ 1048576 from fun hh t => Nat.le_trans List.countP_le_length h.many)
  clear h hk
  go_enter Try.func18, Try.ntmps18
  go_wp2_with (refine wpList_range61 rfl _ rfl p.mb p.T p.L rfl TB.out ?_; intro w1 hr1 hg1 hs1)
  go_frame
  obtain ⟨r, hr⟩ : ∃ r, r = w.heap.size := ⟨_, rfl⟩
  rw [← hr] at hr1 hs1 ⊢
  have K1 := Lib.hid ((Keeps.refl (fun b => b ∈ S.live) w).grown hg1 (fun _ _ e => by cases e))
  have R1 := Lib.hid hr1
  have D1 : Snd S p w1 (fun i j => (p.T i j).isSome) := by
    intro t ht
    have := (H.out.tile t ht).keep (hg1.block t (H.out.tile t ht).lt (by simp))
    rw [if_neg]
    · exact this
    · rintro ⟨e1, e2⟩
      simp [e1] at e2
  have D1 := Lib.hid D1
  have HRS := Lib.hid (And.intro hr hs1)
  have PB : ∀ wr, Keeps (fun b => b ∈ S.live) w wr → wr.heap[p.pb]? = w.heap[p.pb]? := fun wr hk => hk.block _ (H.out.plane k p HK.out).1.lt (fun e => ((H.out.tile_ne e).2 k p HK.out).2 rfl)
  have PB := Lib.hid PB
  clear hr1 hg1 hr hs1 x0 x1 x2 x3
  go_loopw [4] (fun _ wr => ∃ left c, Rng wr p.mb r p.T p.L left c ∧ Snd S p wr left ∧ Keeps (fun b => b ∈ S.live) w wr ∧ r < wr.heap.size) (fun _ wr => wr.rangeLeft p.mb r)
  case atStart => exact ⟨_, _, R1.out, D1.out, K1.out, by have := HRS.out; omega⟩
  case round =>
    obtain ⟨left, c, hR, hD, hK, hrs⟩ := hrel
    have HR := Lib.hid hR
    have HD := Lib.hid hD
    have HKK := Lib.hid hK
    have HRL := Lib.hid hrs
    clear hR hD hK hrs
    go_wp2_with (refine wpList_next61 rfl _ rfl p.mb r p.T p.L left c rfl HR.out ?_ ?_)
    · intro hl0
      have HL0 := Lib.hid hl0
      clear hl0
      have x := PB.out _ HKK.out
      rw [(H.out.plane k p HK.out).1] at x
      have x0 : wr.cell? ⟨p.pb, 0, none⟩ = some (.pointer (some ⟨S.A, 0, none⟩)) := by simp [World.cell?, x]
      have x1 : wr.cell? ⟨p.pb, 1, none⟩ = some (.int .i64 (p.W : Int)) := by simp [World.cell?, x]
      have x2 : wr.cell? ⟨p.pb, 2, none⟩ = some (.int .i64 (p.H : Int)) := by simp [World.cell?, x]
      have x3 : wr.cell? ⟨p.pb, 3, none⟩ = some (.map (some p.mb)) := by simp [World.cell?, x]
      clear x
      have FIN : ∀ m' w5, Tab w5 m' p.T p.L → Keeps none' wr w5 → wr.heap.size ≤ m' → Rep (w5.alloc (.cells #[.pointer (some ⟨S.A, 0, none⟩), .int .i64 (p.W : Int), .int .i64 (p.H : Int), .map (some m')] 63)) (S.more ⟨w5.heap.size, m', p.W, p.H, p.T, p.L⟩) ∧
          Keeps (fun b => b ∈ S.live) w (w5.alloc (.cells #[.pointer (some ⟨S.A, 0, none⟩), .int .i64 (p.W : Int), .int .i64 (p.H : Int), .map (some m')] 63)) ∧ w.heap.size ≤ w5.heap.size ∧ w.heap.size ≤ m' := by
        intro m' w5 hT hk hm'
        have K6 : Keeps (fun b => b ∈ S.live) w (w5.alloc (.cells #[.pointer (some ⟨S.A, 0, none⟩), .int .i64 (p.W : Int), .int .i64 (p.H : Int), .map (some m')] 63)) := (HKK.out.trans hk (fun _ _ h => h.elim)).alloc _
        have L6 : Keeps none' wr (w5.alloc (.cells #[.pointer (some ⟨S.A, 0, none⟩), .int .i64 (p.W : Int), .int .i64 (p.H : Int), .map (some m')] 63)) := hk.alloc _
        have hws : w.heap.size ≤ wr.heap.size := HKK.out.size
        have HP := H.out.plane k p HK.out
        refine ⟨H.out.addPl (heap_alloc_new _ _) (hT.keep (Below.heap_alloc _ _ _ hT.lt)) HP.2.2 hm (Nat.le_trans hws hm') (H.out.at_ k p HK.out) (K6.block _ (H.out.lt (Or.inl rfl)) (fun e => (H.out.tile_ne e).1 rfl)) (fun a q hq => ⟨K6.block _ (H.out.plane a q hq).1.lt (fun e => ((H.out.tile_ne e).2 a q hq).2 rfl), K6.block _ (H.out.plane a q hq).2.1.lt (fun e => ((H.out.tile_ne e).2 a q hq).1 rfl)⟩) (fun t ht => ?_), K6, Nat.le_trans hws hk.size, Nat.le_trans hws hm'⟩
        have := (HD.out t ht).later L6
        have e : (p.T (S.home t).1 (S.home t).2 = some t ∧ left (S.home t).1 (S.home t).2 = false) = (p.T (S.home t).1 (S.home t).2 = some t) := propext ⟨fun h => h.1, fun h => ⟨h, by
          have hrg := HR.out.rng _ _ (show p.T (S.home t).1 (S.home t).2 ≠ none by rw [h]; simp)
          exact HL0.out _ _ hrg.1 hrg.2⟩⟩
        simp only [e] at this
        exact this
      have FIN := Lib.hid FIN
      have CEL : ∀ w', Keeps none' wr w' → w'.cell? ⟨p.pb, 0, none⟩ = some (.pointer (some ⟨S.A, 0, none⟩)) ∧ w'.cell? ⟨p.pb, 1, none⟩ = some (.int .i64 (p.W : Int)) ∧ w'.cell? ⟨p.pb, 2, none⟩ = some (.int .i64 (p.H : Int)) ∧ w'.cell? ⟨p.pb, 3, none⟩ = some (.map (some p.mb)) ∧ Keeps none' wr w' :=
        fun w' hk => ⟨hk.cell x0, hk.cell x1, hk.cell x2, hk.cell x3, hk⟩
      have CLO : ∀ w', (w'.cell? ⟨p.pb, 0, none⟩ = some (.pointer (some ⟨S.A, 0, none⟩)) ∧ w'.cell? ⟨p.pb, 1, none⟩ = some (.int .i64 (p.W : Int)) ∧ w'.cell? ⟨p.pb, 2, none⟩ = some (.int .i64 (p.H : Int)) ∧ w'.cell? ⟨p.pb, 3, none⟩ = some (.map (some p.mb)) ∧ Keeps none' wr w') → Calls Try.prog 38 #[.map (some p.mb)] w' fun e w'' => ∃ m', e = .returned (.map (some m')) ∧ Tab w'' m' p.T p.L ∧ wr.heap.size ≤ m' ∧ w''.cell? ⟨p.pb, 0, none⟩ = some (.pointer (some ⟨S.A, 0, none⟩)) ∧ w''.cell? ⟨p.pb, 1, none⟩ = some (.int .i64 (p.W : Int)) ∧ w''.cell? ⟨p.pb, 2, none⟩ = some (.int .i64 (p.H : Int)) ∧ w''.cell? ⟨p.pb, 3, none⟩ = some (.map (some p.mb)) ∧ Keeps none' wr w'' := by
        intro w' hS
        have hk := hS.2.2.2.2
        refine (clone_any w' p.mb p.T p.L (HR.out.tab.keep (hk.later _ HR.out.tab.lt))).mono ?_
        rintro e w'' ⟨rfl, h1, h2, -⟩
        exact ⟨_, rfl, h1, hk.size, CEL w'' (hk.trans h2 (fun _ _ h => h))⟩
      have CLO := Lib.hid CLO
      have S1 := Lib.hid (CEL wr (Keeps.refl none' wr))
      have S2 := Lib.hid (CEL wr.drew (Keeps.refl none' wr).drew)
      have SA : ∀ w' o, (w'.cell? ⟨p.pb, 0, none⟩ = some (.pointer (some ⟨S.A, 0, none⟩)) ∧ w'.cell? ⟨p.pb, 1, none⟩ = some (.int .i64 (p.W : Int)) ∧ w'.cell? ⟨p.pb, 2, none⟩ = some (.int .i64 (p.H : Int)) ∧ w'.cell? ⟨p.pb, 3, none⟩ = some (.map (some p.mb)) ∧ Keeps none' wr w') → (w'.alloc o).cell? ⟨p.pb, 0, none⟩ = some (.pointer (some ⟨S.A, 0, none⟩)) ∧ (w'.alloc o).cell? ⟨p.pb, 1, none⟩ = some (.int .i64 (p.W : Int)) ∧ (w'.alloc o).cell? ⟨p.pb, 2, none⟩ = some (.int .i64 (p.H : Int)) ∧ (w'.alloc o).cell? ⟨p.pb, 3, none⟩ = some (.map (some p.mb)) ∧ Keeps none' wr (w'.alloc o) := fun w' o h => CEL _ (h.2.2.2.2.alloc o)
      have SA := Lib.hid SA
      clear HD HL0 HKK CEL
      go_wp2_with fail
      go_region_held3 (fun w' => w'.cell? ⟨p.pb, 0, none⟩ = some (.pointer (some ⟨S.A, 0, none⟩)) ∧ w'.cell? ⟨p.pb, 1, none⟩ = some (.int .i64 (p.W : Int)) ∧ w'.cell? ⟨p.pb, 2, none⟩ = some (.int .i64 (p.H : Int)) ∧ w'.cell? ⟨p.pb, 3, none⟩ = some (.map (some p.mb)) ∧ Keeps none' wr w') (first | exact S1.out | exact S2.out | (refine ⟨‹_›, ‹_›, ‹_›, ‹_›, ‹_›⟩) | (exact SA.out _ _ ⟨‹_›, ‹_›, ‹_›, ‹_›, ‹_›⟩) | go_keep) (first | (go_at_call 38; refine (CLO.out _ (by first | exact S1.out | exact S2.out | exact ⟨‹_›, ‹_›, ‹_›, ‹_›, ‹_›⟩)).mono ?_; rintro e w5 ⟨m', rfl, hT5, hm5, k0, k1, k2, k3, k4⟩))
      have Y := Lib.hid (FIN.out m' w5 hT5 k4 hm5)
      clear hT5 hm5 k0 k1 k2 k3 k4 x0 x1 x2 x3 FIN CLO S1 S2 SA
      go_wp2_with fail
      go_ret
      exact ⟨⟨w5.heap.size, m', p.W, p.H, p.T, p.L⟩, rfl, Y.out.1, Y.out.2.1, rfl, rfl, rfl, rfl, Y.out.2.2.1, Y.out.2.2.2⟩
    · intro i j t w2 c2 hi hj ht hl hR2 hlt hg2 hs2 hen
      obtain ⟨htl, hth, -⟩ := H.out.at_ k p HK.out i j t ht
      have hT := HD.out t htl
      rw [hth] at hT
      simp only [ht, hl, true_and, Bool.true_eq_false, if_false, Nat.add_zero] at hT
      have hrlt := HR.out.lt
      have hT2 := hT.keep (hg2.block t hT.lt (fun e => by cases e; exact HR.out.notCells hT.choose_spec.1))
      obtain ⟨t0, t1⟩ := hT2.count
      obtain ⟨n, hn⟩ : ∃ n, n = cnt S.ps (i, j) t := ⟨_, rfl⟩
      have hn2 : n ≤ 1048576 := by rw [hn]; exact HM.out _ _
      rw [← hn] at t0 hT2
      have NX : Rng (w2.setCell ⟨t, 0, none⟩ (.int .i64 ((n + 1 : Nat) : Int))) p.mb r p.T p.L (strike left i j) c2 ∧ Snd S p (w2.setCell ⟨t, 0, none⟩ (.int .i64 ((n + 1 : Nat) : Int))) (strike left i j) ∧
          Keeps (fun b => b ∈ S.live) w (w2.setCell ⟨t, 0, none⟩ (.int .i64 ((n + 1 : Nat) : Int))) ∧ r < (w2.setCell ⟨t, 0, none⟩ (.int .i64 ((n + 1 : Nat) : Int))).heap.size := by
        refine ⟨hR2.keep (Below.heap_setCell w2 ⟨t, 0, none⟩ _ _ (fun e => ((H.out.tile_ne htl).2 k p HK.out).1 e.symm)) (Below.heap_setCell w2 ⟨t, 0, none⟩ _ _ (fun e => hR2.notCells (by rw [show r = t from e]; exact hT2.choose_spec.1))), fun t' ht' => ?_, ((HKK.out.grown hg2 (fun b hb e => ?_)).setCell (fun _ => htl) _), by simp [World.setCell, hs2]; exact HRL.out⟩
        · by_cases e : t' = t
          · subst e
            have h1 := hT2.setCount (n + 1)
            rw [hth]
            simp only [ht, strike, and_self, decide_true, Bool.not_true, Bool.and_false, if_true]
            rw [← hn]
            exact h1
          · have h1 := HD.out t' ht'
            have h2 := (h1.keep (hg2.block t' h1.lt (fun e => by cases e; exact HR.out.notCells h1.choose_spec.1))).keep (Below.heap_setCell w2 ⟨t, 0, none⟩ (.int .i64 ((n + 1 : Nat) : Int)) t' e)
            have e2 : (p.T (S.home t').1 (S.home t').2 = some t' ∧ strike left i j (S.home t').1 (S.home t').2 = false) = (p.T (S.home t').1 (S.home t').2 = some t' ∧ left (S.home t').1 (S.home t').2 = false) := by
              apply propext
              refine and_congr_right (fun h3 => ?_)
              have : ¬ ((S.home t').1 = i ∧ (S.home t').2 = j) := fun e4 => by
                rw [e4.1, e4.2, ht] at h3
                cases h3
                exact e rfl
              simp [strike, this]
            simp only [e2]
            exact h2
        · cases e
          have := HRS.out
          omega
      rw [show ((n + 1 : Nat) : Int) = (n : Int) + 1 by omega] at NX
      have NY := Lib.hid NX
      clear NX
      have LE := Lib.hid (And.intro hlt HR.out.left_eq)
      clear hT hT2 hR2 hlt hg2 hs2 hn hl ht hth hrlt
      go_wp2_with fail
      go_roundw
      case rel => exact ⟨_, c2, NY.out⟩
      case measure => rw [NY.out.1.left_eq, LE.out.2]; exact LE.out.1
end Go.Proofs.Ytgonpaofickffaa
