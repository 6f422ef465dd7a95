/- All tiles given back. -/
import Derived.Test.YtgonpaofickffaaTL
namespace Go.Proofs.Ytgonpaofickffaa
open Go.RowKit Go.Maps
set_option linter.unusedVariables false

/-- A tile that goes with a plane. -/
def goes (S : St) (p : Pl) (t : Nat) : Bool := decide (p.T (S.home t).1 (S.home t).2 = some t ∧ cnt S.ps (S.home t) t = 1)
def St.drop (S : St) (k : Nat) (p : Pl) : St := { S with ps := S.ps.set k { p with T := fun _ _ => none, L := [] }, live := S.live.filter (fun t => !goes S p t) }
theorem countP_one {l : List Nat} {P Q : Nat → Bool} {t : Nat} (hn : l.Nodup) (ht : t ∈ l) (hP : P t = false) (hQ : Q t = true) (hr : ∀ x ∈ l, x ≠ t → Q x = P x) : l.countP Q = l.countP P + 1 := by
  induction l with
  | nil => cases ht
  | cons x l ih =>
    obtain ⟨h1, h2⟩ := List.nodup_cons.1 hn
    rw [List.countP_cons, List.countP_cons]
    by_cases e : x = t
    · subst e
      have : l.countP Q = l.countP P := List.countP_congr (fun y hy => by rw [hr y (by simp [hy]) (fun e => h1 (e ▸ hy))])
      rw [this, hP, hQ]
      simp
    · have htl : t ∈ l := by
        rcases List.mem_cons.1 ht with h | h
        · exact absurd h.symm e
        · exact h
      rw [ih h2 htl (fun y hy => hr y (by simp [hy])), hr x (by simp) e]
      omega
theorem countP_none {l : List Nat} {P Q : Nat → Bool} (hr : ∀ x ∈ l, Q x = P x) : l.countP Q = l.countP P := List.countP_congr (fun y hy => by rw [hr y hy])

/-- The tiles, and what is free, while a plane gives its tiles back. -/
structure Drp (S : St) (p : Pl) (w : World) (left : Nat → Nat → Bool) : Prop where
  tile : ∀ t ∈ S.live, TileAt w t (cnt S.ps (S.home t) t - (if p.T (S.home t).1 (S.home t).2 = some t ∧ left (S.home t).1 (S.home t).2 = false then 1 else 0)) (S.pix t)
  arena : w.heap[S.A]? = some (.cells #[.int .i64 ((S.free + S.live.countP (fun t => goes S p t && !left (S.home t).1 (S.home t).2) : Nat) : Int)] 59 (0, 0))
theorem drop_end {w w' : World} {S : St} (h : Rep w S) {k : Nat} {p : Pl} (hk : S.ps[k]? = some p) {left : Nat → Nat → Bool} (hl : ∀ i j, i < 2048 → j < 2048 → left i j = false) (hD : Drp S p w' left)
    (hb : ∀ (a : Nat) q, S.ps[a]? = some q → w'.heap[q.pb]? = w.heap[q.pb]? ∧ (a ≠ k → w'.heap[q.mb]? = w.heap[q.mb]?)) (hT : Tab w' p.mb (fun _ _ => none) []) : Rep w' (S.drop k p) := by
  have hleft : ∀ t ∈ S.live, ∀ e : p.T (S.home t).1 (S.home t).2 = some t, left (S.home t).1 (S.home t).2 = false := fun t ht e => by
    have := (h.plane k p hk).2.1.rng _ _ (show p.T (S.home t).1 (S.home t).2 ≠ none by rw [e]; simp)
    exact hl _ _ this.1 this.2
  have hget : ∀ (a : Nat) q, (S.drop k p).ps[a]? = some q → (a = k ∧ q = { p with T := fun _ _ => none, L := [] }) ∨ (a ≠ k ∧ S.ps[a]? = some q) := by
    intro a q hq
    simp only [St.drop] at hq
    rw [List.getElem?_set] at hq
    split at hq
    · rename_i e
      split at hq
      · cases hq; exact Or.inl ⟨e.symm, rfl⟩
      · cases hq
    · rename_i e
      exact Or.inr ⟨fun e' => e e'.symm, hq⟩
  have hcnt : ∀ hm t, cnt (S.drop k p).ps hm t + (if p.T hm.1 hm.2 = some t then 1 else 0) = cnt S.ps hm t := by
    intro hm t
    have := cnt_set S.ps k p { p with T := fun _ _ => none, L := [] } hk hm t
    simp only [reduceCtorEq, if_false, Nat.add_zero] at this
    exact this
  have hlive : ∀ t, t ∈ (S.drop k p).live ↔ t ∈ S.live ∧ ¬ (p.T (S.home t).1 (S.home t).2 = some t ∧ cnt S.ps (S.home t) t = 1) := by
    intro t
    simp only [St.drop, List.mem_filter, goes, Bool.not_eq_true', decide_eq_false_iff_not]
  have hcount : S.live.countP (fun t => goes S p t && !left (S.home t).1 (S.home t).2) = S.live.countP (goes S p) := countP_none (fun t ht => by
    cases e : goes S p t with
    | false => rfl
    | true =>
      have e2 := (of_decide_eq_true e).1
      rw [hleft t ht e2]; rfl)
  have hlen : (S.drop k p).live.length + S.live.countP (goes S p) = S.live.length := by
    have := List.length_eq_countP_add_countP (goes S p) (l := S.live)
    simp only [St.drop]
    rw [← List.countP_eq_length_filter]
    have e : S.live.countP (fun t => !goes S p t) = S.live.countP (fun t => decide (¬ goes S p t = true)) := countP_none (fun t _ => by simp)
    rw [e]
    omega
  constructor
  · rw [show ((S.drop k p).free : Int) = ((S.free + S.live.countP (fun t => goes S p t && !left (S.home t).1 (S.home t).2) : Nat) : Int) from ?_]
    · exact hD.arena
    · rw [hcount]
      have := h.room
      simp only [St.free, show (S.drop k p).cap = S.cap from rfl]
      omega
  · have := h.room
    show (S.drop k p).live.length ≤ S.cap
    omega
  · exact h.cap
  · intro a q hq
    rcases hget a q hq with ⟨rfl, rfl⟩ | ⟨hne, hq'⟩
    · obtain ⟨h1, h2, h3⟩ := h.plane a p hk
      exact ⟨(hb a p hk).1.trans h1, hT, h3⟩
    · obtain ⟨h1, h2, h3⟩ := h.plane a q hq'
      exact ⟨(hb a q hq').1.trans h1, h2.keep ((hb a q hq').2 hne), h3⟩
  · intro a q hq i j t e
    rcases hget a q hq with ⟨rfl, rfl⟩ | ⟨hne, hq'⟩
    · cases e
    · obtain ⟨q1, q2, q3⟩ := h.at_ a q hq' i j t e
      refine ⟨(hlive t).2 ⟨q1, ?_⟩, q2, q3⟩
      rintro ⟨e1, e2⟩
      rw [q2] at e1 e2
      have h0 := hcnt (i, j) t
      rw [if_pos e1, e2] at h0
      have : 0 < cnt (S.drop k p).ps (i, j) t := by
        refine List.countP_pos_iff.2 ⟨q, ?_, by simp [e]⟩
        exact List.mem_of_getElem? hq
      omega
  · intro t ht
    obtain ⟨h1, h2⟩ := (hlive t).1 ht
    have := hD.tile t h1
    have e : cnt S.ps (S.home t) t - (if p.T (S.home t).1 (S.home t).2 = some t ∧ left (S.home t).1 (S.home t).2 = false then 1 else 0) = cnt (S.drop k p).ps (S.home t) t := by
      have h0 := hcnt (S.home t) t
      by_cases e1 : p.T (S.home t).1 (S.home t).2 = some t
      · rw [if_pos ⟨e1, hleft t h1 e1⟩]
        rw [if_pos e1] at h0
        omega
      · rw [if_neg (fun h => e1 h.1)]
        rw [if_neg e1] at h0
        omega
    rw [e] at this
    exact this
  · intro t ht
    obtain ⟨h1, h2⟩ := (hlive t).1 ht
    have h0 := hcnt (S.home t) t
    have hu := h.used t h1
    show 0 < cnt (S.drop k p).ps (S.home t) t
    by_cases e1 : p.T (S.home t).1 (S.home t).2 = some t
    · rw [if_pos e1] at h0
      have : cnt S.ps (S.home t) t ≠ 1 := fun e => h2 ⟨e1, e⟩
      omega
    · rw [if_neg e1] at h0
      omega
  · exact h.nd.filter _
  · intro a b q r hq hr hm
    rcases hget a q hq with ⟨e1, e2⟩ | ⟨hne, hq'⟩ <;> rcases hget b r hr with ⟨e3, e4⟩ | ⟨hne2, hr'⟩
    · rw [e1, e3]
    · rw [e1]; exact h.apart _ _ p r hk hr' (by rw [← hm, e2])
    · rw [e3]; exact h.apart _ _ q p hq' hk (by rw [hm, e4])
    · exact h.apart _ _ q r hq' hr' hm
  · intro t ht
    exact h.small t ((hlive t).1 ht).1
  · simp only [St.drop, List.length_set]
    exact h.many
set_option maxHeartbeats 1600000 in
set_option maxRecDepth 100000 in
theorem drop_any (w : World) (S : St) (h : Rep w S) (k : Nat) (p : Pl) (hk : S.ps[k]? = some p) :
    Calls Try.prog 21 #[.pointer (some ⟨p.pb, 0, none⟩)] w fun e w' => e = .returned (.tuple #[]) ∧ Rep w' (S.drop k p) ∧ Keeps (Foot S) w w' := by
  have H := Lib.hid h
  have HK := Lib.hid hk
  obtain ⟨x0, x1, x2, x3⟩ := h.cells hk
  have TB := Lib.hid (h.plane k p hk).2.1
  have HM := Lib.hid (show ∀ h t, cnt S.ps h t ≤ 1048576 from fun hh t => Nat.le_trans List.countP_le_length h.many)
  clear h hk
  go_enter Try.func21, Try.ntmps21
  go_wp2_with (refine wpList_range61 rfl _ rfl p.mb p.T p.L rfl TB.out ?_; intro w1 hr1 hg1 hs1)
  go_frame
  obtain ⟨r, hr⟩ : ∃ r, r = w.heap.size := ⟨_, rfl⟩
  rw [← hr] at hr1 hs1 ⊢
  have K1 := Lib.hid ((Keeps.refl (fun b => b ∈ S.live ∨ b = S.A) w).grown hg1 (fun _ _ e => by cases e))
  have R1 := Lib.hid hr1
  have D0 : Drp S p w1 (fun i j => (p.T i j).isSome) := by
    refine ⟨fun t ht => ?_, ?_⟩
    · have := (H.out.tile t ht).keep (hg1.block t (H.out.tile t ht).lt (by simp))
      rw [if_neg]
      · exact this
      · rintro ⟨e1, e2⟩
        simp [e1] at e2
    · have : S.live.countP (fun t => goes S p t && !(p.T (S.home t).1 (S.home t).2).isSome) = 0 := List.countP_eq_zero.2 (fun t ht e => by
        simp only [goes, Bool.and_eq_true, decide_eq_true_eq, Bool.not_eq_true'] at e
        rw [e.1.1] at e
        simp at e)
      rw [this]
      exact (hg1.block _ (H.out.lt (Or.inl rfl)) (by simp)).trans H.out.arena
  have D1 := Lib.hid D0
  have HRS := Lib.hid (And.intro hr hs1)
  have PB : ∀ wr, Keeps (fun b => b ∈ S.live ∨ b = S.A) w wr → ∀ (a : Nat) q, S.ps[a]? = some q → wr.heap[q.pb]? = w.heap[q.pb]? ∧ wr.heap[q.mb]? = w.heap[q.mb]? := fun wr hk a q hq => ⟨hk.block _ (H.out.plane a q hq).1.lt (fun e => e.elim (fun e => ((H.out.tile_ne e).2 a q hq).2 rfl) (fun e => (H.out.arena_ne a q hq).2 e.symm)),
    hk.block _ (H.out.plane a q hq).2.1.lt (fun e => e.elim (fun e => ((H.out.tile_ne e).2 a q hq).1 rfl) (fun e => (H.out.arena_ne a q hq).1 e.symm))⟩
  have PBB := Lib.hid PB
  clear hr1 hg1 hr hs1 x0 x1 x2 x3 D0 PB
  go_loopw [3] (fun _ wr => ∃ left c, Rng wr p.mb r p.T p.L left c ∧ Drp S p wr left ∧ Keeps (fun b => b ∈ S.live ∨ b = S.A) w wr ∧ r < wr.heap.size) (fun _ wr => wr.rangeLeft p.mb r)
  case atStart => exact ⟨_, _, R1.out, D1.out, K1.out, by have := HRS.out; omega⟩
  case round =>
    obtain ⟨left, c, hR, hD, hK, hrs⟩ := hrel
    have HR := Lib.hid hR
    have HD := Lib.hid hD
    have HKK := Lib.hid hK
    have HRL := Lib.hid hrs
    have x := (PBB.out _ hK k p HK.out).1
    rw [(H.out.plane k p HK.out).1] at x
    have x0 : wr.cell? ⟨p.pb, 0, none⟩ = some (.pointer (some ⟨S.A, 0, none⟩)) := by simp [World.cell?, x]
    have x3 : wr.cell? ⟨p.pb, 3, none⟩ = some (.map (some p.mb)) := by simp [World.cell?, x]
    clear hR hD hK hrs x
    go_wp2_with (refine wpList_next61 rfl _ rfl p.mb r p.T p.L left c rfl HR.out ?_ ?_)
    · intro hl0
      obtain ⟨w6, hcl, hT6, hg6, hs6⟩ := HR.out.tab.clear 0
      have hlive := hg6
      have FIN : Rep w6 (S.drop k p) ∧ Keeps (Foot S) w w6 := by
        have HKP := H.out.plane k p HK.out
        refine ⟨drop_end H.out HK.out hl0 ⟨fun t ht => (HD.out.tile t ht).keep (hg6.block t (HD.out.tile t ht).lt (fun e => by cases e; exact ((H.out.tile_ne ht).2 k p HK.out).1 rfl)), (hg6.block _ (lt_of_block HD.out.arena) (fun e => (H.out.arena_ne k p HK.out).1 (Option.some.inj e))).trans HD.out.arena⟩ (fun a q hq => ?_) hT6, ?_⟩
        · obtain ⟨b1, b2⟩ := PBB.out _ HKK.out a q hq
          refine ⟨(hg6.block _ (Nat.lt_of_lt_of_le (H.out.plane a q hq).1.lt HKK.out.size) (fun e => H.out.plane_ne HK.out hq (Option.some.inj e).symm)).trans b1, fun hne => (hg6.block _ (Nat.lt_of_lt_of_le (H.out.plane a q hq).2.1.lt HKK.out.size) (fun e => hne (H.out.apart a k q p hq HK.out (Option.some.inj e)))).trans b2⟩
        · refine (HKK.out.mono (S1 := Foot S) (fun b _ e => ?_)).grown hg6 (fun b _ e => ?_)
          · rcases e with e | rfl
            · exact Or.inr (Or.inr e)
            · exact Or.inl rfl
          · cases e; exact Or.inr (Or.inl ⟨k, p, HK.out, Or.inl rfl⟩)
      have FIN := Lib.hid FIN
      clear hl0 hT6 hg6 hs6 hlive
      go_wp2_with fail
      go_end0
      exact ⟨rfl, FIN.out⟩
    · intro i j t w2 c2 hi hj ht hl hR2 hlt hg2 hs2 hen
      obtain ⟨htl, hth, -⟩ := H.out.at_ k p HK.out i j t ht
      have hT := HD.out.tile t htl
      rw [hth] at hT
      simp only [ht, hl, true_and, Bool.true_eq_false, if_false, Nat.sub_zero] at hT
      have hT2 := hT.keep (hg2.block t hT.lt (fun e => by cases e; exact HR.out.notCells hT.choose_spec.1))
      have hA2 := (hg2.block _ (lt_of_block HD.out.arena) (fun e => by
        have h1 := HD.out.arena
        rw [Option.some.inj e] at h1
        exact HR.out.notCells h1)).trans HD.out.arena
      obtain ⟨f, hf⟩ : ∃ f, f = S.free + S.live.countP (fun t => goes S p t && !left (S.home t).1 (S.home t).2) := ⟨_, rfl⟩
      have hf2 : f ≤ 2097152 := by
        have h1 : S.live.countP (fun t => goes S p t && !left (S.home t).1 (S.home t).2) ≤ S.live.length := List.countP_le_length
        have h2 := H.out.room
        have h3 := H.out.cap
        have h4 : S.free = S.cap - S.live.length := rfl
        omega
      rw [← hf] at hA2
      obtain ⟨t0, t1⟩ := hT2.count
      have a0 : w2.cell? ⟨S.A, 0, none⟩ = some (.int .i64 (f : Int)) := by simp [World.cell?, hA2]
      have a1 : w2.frozen? ⟨S.A, 0, none⟩ = false := by simp [World.frozen?, hA2]
      have y0 : w2.cell? ⟨p.pb, 0, none⟩ = some (.pointer (some ⟨S.A, 0, none⟩)) := (World.cell?_of_block (w := wr) (hg2.block _ (Nat.lt_of_lt_of_le (H.out.plane k p HK.out).1.lt HKK.out.size) (fun e => by
        have h1 := (PBB.out _ HKK.out k p HK.out).1
        rw [(H.out.plane k p HK.out).1] at h1
        rw [show p.pb = r from Option.some.inj e] at h1
        exact HR.out.notCells h1))).trans x0
      obtain ⟨n, hn⟩ : ∃ n, n = cnt S.ps (i, j) t := ⟨_, rfl⟩
      have hn2 : n ≤ 1048576 := by rw [hn]; exact HM.out _ _
      have hn1 : 0 < n := by have := H.out.used t htl; rw [hth, ← hn] at this; exact this
      rw [← hn] at t0 hT2
      have htA : t ≠ S.A := (H.out.tile_ne htl).1
      have htp : t ≠ p.pb := ((H.out.tile_ne htl).2 k p HK.out).2
      have NX : ∀ wN, TileAt wN t (n - 1) (S.pix t) → wN.heap[S.A]? = some (.cells #[.int .i64 ((f + (if n = 1 then 1 else 0) : Nat) : Int)] 59 (0, 0)) → Keeps (fun b => b = t ∨ b = S.A) w2 wN →
          Rng wN p.mb r p.T p.L (strike left i j) c2 ∧ Drp S p wN (strike left i j) ∧ Keeps (fun b => b ∈ S.live ∨ b = S.A) w wN ∧ r < wN.heap.size := by
        intro wN h1 h2 h3
        have hrn : ¬ (r = t ∨ r = S.A) := fun e => e.elim (fun e => hR2.notCells (by rw [e]; exact hT2.choose_spec.1)) (fun e => hR2.notCells (by rw [e]; exact hA2))
        refine ⟨hR2.keep (h3.block _ hR2.tab.lt (fun e => e.elim (fun e => ((H.out.tile_ne htl).2 k p HK.out).1 e.symm) (fun e => (H.out.arena_ne k p HK.out).1 e.symm))) (h3.block _ hR2.lt.1 hrn), ⟨fun t' ht' => ?_, ?_⟩, (HKK.out.grown hg2 (fun b hb e => ?_)).trans h3 (fun b _ e => e.elim (fun e => Or.inl (by rw [e]; exact htl)) Or.inr), by have := h3.size; rw [hs2] at this; exact Nat.lt_of_lt_of_le HRL.out this⟩
        · by_cases e : t' = t
          · subst e
            rw [hth]
            simp only [ht, strike, and_self, decide_true, Bool.not_true, Bool.and_false, if_true]
            rw [← hn]
            exact h1
          · have g1 := HD.out.tile t' ht'
            have g2 := (g1.keep (hg2.block t' g1.lt (fun e => by cases e; exact HR.out.notCells g1.choose_spec.1))).keep (h3.block t' (by rw [hs2]; exact g1.lt) (fun e2 => e2.elim e (fun e2 => (H.out.tile_ne ht').1 e2)))
            have e2 : (p.T (S.home t').1 (S.home t').2 = some t' ∧ strike left i j (S.home t').1 (S.home t').2 = false) = (p.T (S.home t').1 (S.home t').2 = some t' ∧ left (S.home t').1 (S.home t').2 = false) := by
              apply propext
              refine and_congr_right (fun h3 => ?_)
              have : ¬ ((S.home t').1 = i ∧ (S.home t').2 = j) := fun e4 => by
                rw [e4.1, e4.2, ht] at h3
                cases h3
                exact e rfl
              simp [strike, this]
            simp only [e2]
            exact g2
        · have oth : ∀ x ∈ S.live, x ≠ t → (goes S p x && !strike left i j (S.home x).1 (S.home x).2) = (goes S p x && !left (S.home x).1 (S.home x).2) := by
            intro x hx hxt
            cases e : goes S p x with
            | false => rfl
            | true =>
              have h3 := (of_decide_eq_true e).1
              have : ¬ ((S.home x).1 = i ∧ (S.home x).2 = j) := fun e4 => by
                rw [e4.1, e4.2, ht] at h3
                cases h3
                exact hxt rfl
              simp [strike, this]
          have hgt : goes S p t = decide (n = 1) := by
            simp only [goes, hth, ht, true_and, hn]
          rw [h2, hf]
          by_cases e1 : n = 1
          · rw [if_pos e1, countP_one (P := fun t => goes S p t && !left (S.home t).1 (S.home t).2) (Q := fun t => goes S p t && !strike left i j (S.home t).1 (S.home t).2) (t := t) H.out.nd htl (by simp [hth, hl]) (by simp [hgt, e1, hth, strike]) oth, Nat.add_assoc]
          · rw [if_neg e1, countP_none (P := fun t => goes S p t && !left (S.home t).1 (S.home t).2) (Q := fun t => goes S p t && !strike left i j (S.home t).1 (S.home t).2) (fun x hx => by
              by_cases e : x = t
              · subst e; simp [hgt, e1]
              · exact oth x hx e)]
            rfl
        · cases e
          have := HRS.out
          omega
      have NY := Lib.hid NX
      have LE := Lib.hid (And.intro hlt HR.out.left_eq)
      have TA := Lib.hid (And.intro hT2 hA2)
      clear hT hT2 hA2 hR2 hlt hg2 hs2 hn hl ht hth NX hf x0 x3
      by_cases e1 : n = 1
      · subst e1
        have htA' : S.A ≠ t := fun e => htA e.symm
        go_wp2_with fail
        have Z := NY.out ((w2.setCell ⟨t, 0, none⟩ (.int .i64 0)).setCell ⟨S.A, 0, none⟩ (.int .i64 ((f : Int) + 1))) (((TA.out.1.setCount 0)).keep (Below.heap_setCell _ _ _ _ htA)) (by
          have h1 := block_set ((Below.heap_setCell w2 ⟨t, 0, none⟩ (.int .i64 0) S.A htA').trans TA.out.2) (i := 0) (.int .i64 ((f : Int) + 1))
          rw [if_pos rfl, show ((f + 1 : Nat) : Int) = (f : Int) + 1 by omega]
          simpa using h1) (((Keeps.refl (fun b => b = t ∨ b = S.A) w2).setCell (fun _ => Or.inl rfl) _).setCell (fun _ => Or.inr rfl) _)
        exact ⟨⟨_, c2, Z⟩, by rw [Z.1.left_eq, LE.out.2]; exact LE.out.1⟩
      · have u0 : ((n : Int) - 1 == 0) = false := by simp; omega
        have u1 : decide ((n : Int) - 1 = 0) = false := by simp; omega
        have HN1 := Lib.hid e1
        go_wp2_with fail
        have Z := NY.out (w2.setCell ⟨t, 0, none⟩ (.int .i64 ((n : Int) - 1))) (by rw [show (n : Int) - 1 = ((n - 1 : Nat) : Int) by omega]; exact TA.out.1.setCount (n - 1)) ((Below.heap_setCell _ _ _ _ (fun e => htA e.symm)).trans (by rw [if_neg HN1.out]; exact TA.out.2)) ((Keeps.refl (fun b => b = t ∨ b = S.A) w2).setCell (fun _ => Or.inl rfl) _)
        exact ⟨⟨_, c2, Z⟩, by rw [Z.1.left_eq, LE.out.2]; exact LE.out.1⟩
end Go.Proofs.Ytgonpaofickffaa
