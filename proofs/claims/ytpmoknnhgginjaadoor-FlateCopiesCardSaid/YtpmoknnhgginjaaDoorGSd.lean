/- Texts of a layer, one behind the other. -/
import Derived.Test.YtpmoknnhgginjaaDoorProg
import Derived.WalkKit
import Derived.Laws.BitsAllLaws
import Derived.WalkLawsBesides
import Derived.OneCell
import Derived.Lib.Hide
import Derived.BigQuiet
import Derived.Deep.QuietTactic
import Derived.Deep.LoopGhost
import Derived.Deep.OwnRows
import Derived.StillTailTactics
import Derived.Deep.RegionLaw
import Derived.BigRegion
import Derived.RegionTactic
import Derived.Maps.AppendAt
import Derived.Laws.AppendOwnNone
import Derived.Deep.DeepMust
import Derived.OwnWalk
import Derived.Lib.Slices
import Derived.Lib.Small
import Derived.Lib.Walk
import Derived.Sort.Grow
/- Whole numbers in memory; the contract of the document's Weight. -/
namespace Go.Proofs.YtpmoknnhgginjaaDoor.Hu
open Go.RowKit
set_option linter.unusedVariables false

theorem wrap_i64 (n : Int) (h0 : -9223372036854775808 ≤ n) (h1 : n ≤ 9223372036854775807) : IntKind.i64.wrap n = n := by
  simp [IntKind.wrap, IntKind.bits, IntKind.signed]
  omega

/-- Whole numbers that a slice value leads to. -/
def Ints (w : World) (a : Option Addr) (n : Nat) (zs : List Int) : Prop :=
  zs.length = n ∧ (∀ z ∈ zs, -9223372036854775808 ≤ z ∧ z ≤ 9223372036854775807) ∧ (0 < n → ∃ b off, a = some ⟨b, off, none⟩ ∧ ∀ (j : Nat) (z : Int), zs[j]? = some z → w.cell? ⟨b, off + j, none⟩ = some (.int .i64 z))
theorem Ints.later {w w' : World} {a : Option Addr} {n : Nat} {zs : List Int} (h : Ints w a n zs) (hk : ∀ k, k < w.heap.size → w'.heap[k]? = w.heap[k]?) : Ints w' a n zs := by
  obtain ⟨h1, h2, h3⟩ := h
  refine ⟨h1, h2, fun hp => ?_⟩
  obtain ⟨b, off, e, hc⟩ := h3 hp
  exact ⟨b, off, e, fun j y hj => (World.cell?_of_block (w := w) (hk _ (World.block_lt_of_cell? w _ (hc j y hj)))).trans (hc j y hj)⟩
theorem Ints.below {w w' : World} {a : Option Addr} {n : Nat} {zs : List Int} (h : Ints w a n zs) (hb : Below w.heap.size w w') : Ints w' a n zs := h.later hb.block
theorem Ints.at {w : World} {a : Option Addr} {n i : Nat} {zs : List Int} (h : Ints w a n zs) (hi : i < n) : ∃ b off z, a = some ⟨b, off, none⟩ ∧ zs[i]? = some z ∧ (-9223372036854775808 ≤ z ∧ z ≤ 9223372036854775807) ∧ w.cell? ⟨b, off + i, none⟩ = some (.int .i64 z) := by
  obtain ⟨h1, h2, h3⟩ := h
  obtain ⟨b, off, e, hc⟩ := h3 (by omega)
  have hl : i < zs.length := by omega
  exact ⟨b, off, zs[i], e, List.getElem?_eq_getElem hl, h2 _ (List.getElem_mem hl), hc i _ (List.getElem?_eq_getElem hl)⟩
theorem take_more {α : Type} {ys : List α} {i : Nat} {y : α} (h : ys[i]? = some y) : ys.take (i + 1) = ys.take i ++ [y] := by
  rw [List.take_add_one, h]; rfl

/-- What lengths weigh. -/
def wt (z : Nat) : Nat := if z = 0 then 0 else 2 ^ (16 - z)
def weightS (l : List Nat) : Nat := (l.map wt).sum
theorem weightS_snoc (l : List Nat) (z : Nat) : weightS (l ++ [z]) = weightS l + wt z := by simp [weightS]
theorem wt_le (z : Nat) : wt z ≤ 65536 := by
  unfold wt
  split
  · omega
  · exact Nat.le_trans (Nat.pow_le_pow_right (by omega) (show 16 - z ≤ 16 by omega)) (by decide)
theorem weightS_le (l : List Nat) : weightS l ≤ 65536 * l.length := by
  induction l with
  | nil => simp [weightS]
  | cons z l ih =>
    have := wt_le z
    simp only [weightS, List.map_cons, List.sum_cons, List.length_cons] at ih ⊢
    omega
/-- Lengths that may be. -/
def lensOk (zs : List Int) : Bool := decide (zs.length ≤ 300 ∧ ∀ z ∈ zs, 0 ≤ z ∧ z ≤ 16)
def nats (zs : List Int) : List Nat := zs.map Int.toNat
def weightZ (zs : List Int) : Nat := if lensOk zs = true then weightS (nats zs) else 0
theorem nats_snoc (zs : List Int) (z : Int) : nats (zs ++ [z]) = nats zs ++ [z.toNat] := by simp [nats]

theorem shr_wt (z : Nat) (h1 : 1 ≤ z) (h2 : z ≤ 16) : (65536 : Int) / 2 ^ z = ((wt z : Nat) : Int) := by
  have e : (65536 : Nat) = 2 ^ (16 - z) * 2 ^ z := by rw [← Nat.pow_add, show 16 - z + z = 16 by omega]
  have e2 : 65536 / 2 ^ z = 2 ^ (16 - z) := Nat.div_eq_of_eq_mul_left (Nat.two_pow_pos z) e
  have e3 : (65536 : Int) / 2 ^ z = ((65536 / 2 ^ z : Nat) : Int) := by simp
  rw [e3, e2, wt, if_neg (by omega)]

set_option maxRecDepth 100000 in
set_option maxHeartbeats 800000 in
theorem docWeight_any (w : World) (a : Option Addr) (n c : Nat) (zs : List Int) (h : Ints w a n zs) (hn : n ≤ 16777216) :
    Calls Tryd.prog 36 #[.slice a n c] w fun e w' => e = .returned (.tuple #[.int .i64 (weightZ zs : Nat), .bool (lensOk zs)]) ∧ w' = w := by
  have HZ := Lib.hid h
  clear h
  go_enter Tryd.func36, Tryd.ntmps36
  by_cases h3 : 300 < n
  · have hl : lensOk zs = false := by
      unfold lensOk
      simp only [decide_eq_false_iff_not]
      have := HZ.out.1
      omega
    have hw : weightZ zs = 0 := by unfold weightZ; rw [hl]; rfl
    have u : decide ((300 : Int) < (n : Int)) = true := by simp; omega
    rw [hw, hl]
    go_wp2
    go_ret2
    exact ⟨rfl, rfl⟩
  · have u : decide ((300 : Int) < (n : Int)) = false := by simp; omega
    go_wp2
    go_loopw [4, 5] (fun s cnt wr => ∃ i : Nat, i ≤ n ∧ cnt = .int .i64 i ∧ (∀ z ∈ zs.take i, 0 ≤ z ∧ z ≤ 16) ∧ s = .int .i64 (weightS (nats (zs.take i)) : Nat) ∧ wr = w) (fun _ cnt _ => n - (intOf cnt).toNat)
    case atStart => exact ⟨0, Nat.zero_le _, rfl, by intro z hz; simp at hz, rfl, rfl⟩
    case round =>
      obtain ⟨i, hi, rfl, hok, rfl, rfl⟩ := hrel
      by_cases hlt : i < n
      · obtain ⟨b, off, z, rfl, hz, hzb, hcell⟩ := HZ.out.at hlt
        have hmem : z ∈ zs := List.mem_of_getElem? hz
        by_cases hbad : 0 ≤ z ∧ z ≤ 16
        · have HN := Lib.hid (take_more hz)
          have HOK := Lib.hid hok
          have hsl := weightS_le (nats (zs.take i))
          have hll : (nats (zs.take i)).length ≤ 300 := by simp [nats]; omega
          obtain ⟨m, rfl⟩ := Int.eq_ofNat_of_zero_le hbad.1
          have u1 : decide ((m : Int) < 0) = false := by simp
          have u2 : decide ((16 : Int) < (m : Int)) = false := by simp; omega
          have hm16 : m ≤ 16 := by omega
          clear hok hz hbad hmem
          by_cases hm : m = 0
          · subst hm
            generalize hS : weightS (nats (zs.take i)) = s at *
            have HS := Lib.hid hS
            clear hS
            go_wp2_with fail
            go_roundw
            case rel =>
              refine ⟨i + 1, by omega, by go_num, ?_, by rw [HN.out, nats_snoc, weightS_snoc, HS.out]; simp [wt], trivial⟩
              intro z hz
              rw [HN.out, List.mem_append, List.mem_singleton] at hz
              rcases hz with hz | rfl
              · exact HOK.out z hz
              · omega
            case measure => simp [intOf]; omega
          · have u3 : decide ((0 : Int) < (m : Int)) = true := by simp; omega
            have hsh := shr_wt m (by omega) hm16
            have hwl := wt_le m
            generalize hS : weightS (nats (zs.take i)) = s at *
            generalize hW : wt m = x at *
            have HS := Lib.hid (And.intro hS hW)
            clear hS hW
            go_wp2_with fail
            go_roundw
            case rel =>
              refine ⟨i + 1, by omega, by go_num, ?_, by rw [HN.out, nats_snoc, weightS_snoc, HS.out.1, Int.toNat_natCast, HS.out.2]; simp, trivial⟩
              intro z hz
              rw [HN.out, List.mem_append, List.mem_singleton] at hz
              rcases hz with hz | rfl
              · exact HOK.out z hz
              · omega
            case measure => simp [intOf]; omega
        · have hl : lensOk zs = false := by
            unfold lensOk
            simp only [decide_eq_false_iff_not]
            intro hh
            exact hbad (hh.2 z hmem)
          have hw : weightZ zs = 0 := by unfold weightZ; rw [hl]; rfl
          have HL := Lib.hid (And.intro hl hw)
          clear hl hw hz hmem hok
          by_cases hz0 : z < 0
          · have u1 : decide (z < 0) = true := by simpa using hz0
            go_wp2_with fail
            go_ret2
            exact ⟨by rw [HL.out.1, HL.out.2]; rfl, rfl⟩
          · have u1 : decide (z < 0) = false := by simpa using hz0
            have u2 : decide (16 < z) = true := by simp; omega
            go_wp2_with fail
            go_ret2
            exact ⟨by rw [HL.out.1, HL.out.2]; rfl, rfl⟩
      · obtain rfl : i = n := by omega
        have e : zs.take i = zs := List.take_of_length_le (by rw [HZ.out.1]; exact Nat.le_refl _)
        rw [e] at hok ⊢
        have hl : lensOk zs = true := by
          unfold lensOk
          simp only [decide_eq_true_eq]
          exact ⟨by rw [HZ.out.1]; omega, hok⟩
        have hw : weightZ zs = weightS (nats zs) := by unfold weightZ; rw [hl]; rfl
        have HL := Lib.hid (And.intro hl hw)
        clear hl hw hok
        generalize hS : weightS (nats zs) = s at *
        go_wp2
        go_ret2
        exact ⟨by rw [HL.out.1, HL.out.2]; rfl, rfl⟩
end Go.Proofs.YtpmoknnhgginjaaDoor.Hu

/- Codes by lengths: each symbol's span of the rows of sixteen bits; the spans lie one behind the other. No program in it. -/
namespace Go.Proofs.YtpmoknnhgginjaaDoor.Hu.Huff

/-- The symbols that have a code, by length, then by number. -/
def ofLen (l : List Nat) (n : Nat) : List Nat := (List.range l.length).filter (fun s => l.getD s 0 == n)
def ordered (l : List Nat) : Nat → List Nat
  | 0 => []
  | n + 1 => ordered l n ++ ofLen l (n + 1)
/-- How many rows of sixteen bits begin with a code of so many. -/
def room (l : List Nat) (s : Nat) : Nat := 2 ^ (16 - l.getD s 0)
def rooms (l : List Nat) (os : List Nat) : Nat := (os.map (room l)).sum
/-- Each symbol and where its span begins. -/
def spans (l : List Nat) (p : Nat) : List Nat → List (Nat × Nat)
  | [] => []
  | s :: os => (s, p) :: spans l (p + room l s) os

theorem mem_ofLen (l : List Nat) (n s : Nat) : s ∈ ofLen l n ↔ s < l.length ∧ l.getD s 0 = n := by
  simp [ofLen]
theorem mem_ordered (l : List Nat) (n s : Nat) : s ∈ ordered l n ↔ s < l.length ∧ 1 ≤ l.getD s 0 ∧ l.getD s 0 ≤ n := by
  induction n with
  | zero => simp only [ordered, List.not_mem_nil, false_iff]; omega
  | succ n ih =>
    rw [ordered, List.mem_append, ih, mem_ofLen]
    omega
theorem nodup_ordered (l : List Nat) (n : Nat) : (ordered l n).Nodup := by
  induction n with
  | zero => exact List.nodup_nil
  | succ n ih =>
    rw [ordered, List.nodup_append]
    refine ⟨ih, List.Pairwise.filter _ List.nodup_range, ?_⟩
    intro a ha b hb e
    subst e
    have h1 := (mem_ordered l n a).1 ha
    have h2 := (mem_ofLen l (n + 1) a).1 hb
    omega
/-- By length. -/
theorem ordered_lengths (l : List Nat) (n : Nat) : (ordered l n).Pairwise (fun s t => l.getD s 0 < l.getD t 0 ∨ (l.getD s 0 = l.getD t 0 ∧ s < t)) := by
  induction n with
  | zero => exact List.Pairwise.nil
  | succ n ih =>
    rw [ordered, List.pairwise_append]
    refine ⟨ih, ?_, ?_⟩
    · have h : (ofLen l (n + 1)).Pairwise (· < ·) := List.Pairwise.filter _ List.pairwise_lt_range
      refine h.imp_of_mem ?_
      intro a b ha hb hab
      have h1 := (mem_ofLen l (n + 1) a).1 ha
      have h2 := (mem_ofLen l (n + 1) b).1 hb
      exact Or.inr ⟨by omega, hab⟩
    · intro a ha b hb
      have h1 := (mem_ordered l n a).1 ha
      have h2 := (mem_ofLen l (n + 1) b).1 hb
      left
      omega

theorem rooms_nil (l : List Nat) : rooms l [] = 0 := rfl
theorem rooms_cons (l : List Nat) (s : Nat) (os : List Nat) : rooms l (s :: os) = room l s + rooms l os := rfl
theorem rooms_append (l : List Nat) (a b : List Nat) : rooms l (a ++ b) = rooms l a + rooms l b := by simp [rooms]
theorem room_pos (l : List Nat) (s : Nat) : 0 < room l s := Nat.two_pow_pos _

theorem spans_syms (l : List Nat) (p : Nat) (os : List Nat) : (spans l p os).map Prod.fst = os := by
  induction os generalizing p with
  | nil => rfl
  | cons s os ih => rw [spans, List.map_cons, ih]
theorem spans_append (l : List Nat) (p : Nat) (a b : List Nat) : spans l p (a ++ b) = spans l p a ++ spans l (p + rooms l a) b := by
  induction a generalizing p with
  | nil => simp [spans, rooms_nil]
  | cons s a ih => rw [List.cons_append, spans, spans, List.cons_append, ih, rooms_cons, Nat.add_assoc]
theorem spans_within (l : List Nat) (p : Nat) (os : List Nat) : ∀ x ∈ spans l p os, p ≤ x.2 ∧ x.2 + room l x.1 ≤ p + rooms l os := by
  induction os generalizing p with
  | nil => intro x hx; cases hx
  | cons s os ih =>
    intro x hx
    rw [rooms_cons]
    rcases List.mem_cons.1 hx with rfl | hx
    · simp only; omega
    · have := ih _ x hx
      omega
/-- One behind the other. -/
theorem spans_apart (l : List Nat) (p : Nat) (os : List Nat) : (spans l p os).Pairwise (fun x y => x.2 + room l x.1 ≤ y.2) := by
  induction os generalizing p with
  | nil => exact List.Pairwise.nil
  | cons s os ih =>
    rw [spans, List.pairwise_cons]
    refine ⟨?_, ih _⟩
    intro y hy
    exact (spans_within l _ os y hy).1
/-- With no gaps. -/
theorem spans_cover (l : List Nat) (p : Nat) (os : List Nat) (v : Nat) (h1 : p ≤ v) (h2 : v < p + rooms l os) : ∃ x ∈ spans l p os, x.2 ≤ v ∧ v < x.2 + room l x.1 := by
  induction os generalizing p with
  | nil => rw [rooms_nil] at h2; omega
  | cons s os ih =>
    rw [rooms_cons] at h2
    by_cases h : v < p + room l s
    · exact ⟨(s, p), List.mem_cons_self .., h1, h⟩
    · obtain ⟨x, hx, h3⟩ := ih (p + room l s) (by omega) (by omega)
      exact ⟨x, List.mem_cons_of_mem _ hx, h3⟩
/-- A span begins at a multiple of its room. -/
theorem spans_even (l : List Nat) (p : Nat) (os : List Nat) (hl : ∀ s ∈ os, l.getD s 0 ≤ 16) (hs : os.Pairwise (fun s t => l.getD s 0 ≤ l.getD t 0)) (hp : ∀ s ∈ os, room l s ∣ p) : ∀ x ∈ spans l p os, room l x.1 ∣ x.2 := by
  induction os generalizing p with
  | nil => intro x hx; cases hx
  | cons s os ih =>
    intro x hx
    obtain ⟨hs1, hs2⟩ := List.pairwise_cons.1 hs
    rcases List.mem_cons.1 hx with rfl | hx
    · exact hp _ (List.mem_cons_self ..)
    · refine ih (p + room l s) (fun t ht => hl t (List.mem_cons_of_mem _ ht)) hs2 ?_ x hx
      intro t ht
      refine Nat.dvd_add (hp t (List.mem_cons_of_mem _ ht)) ?_
      exact Nat.pow_dvd_pow 2 (by have := hs1 t ht; omega)

/-- All spans of lengths. -/
def all (l : List Nat) : List (Nat × Nat) := spans l 0 (ordered l 16)
theorem all_even (l : List Nat) : ∀ x ∈ all l, room l x.1 ∣ x.2 := by
  refine spans_even l 0 _ (fun s hs => ((mem_ordered l 16 s).1 hs).2.2) ((ordered_lengths l 16).imp (fun h => by omega)) (fun s _ => Nat.dvd_zero _)
theorem all_sym (l : List Nat) (s : Nat) (h1 : s < l.length) (h2 : 1 ≤ l.getD s 0) (h3 : l.getD s 0 ≤ 16) : ∃ p, (s, p) ∈ all l := by
  have h : s ∈ (all l).map Prod.fst := by
    rw [all, spans_syms]
    exact (mem_ordered l 16 s).2 ⟨h1, h2, h3⟩
  obtain ⟨x, hx, rfl⟩ := List.mem_map.1 h
  exact ⟨x.2, hx⟩
theorem all_one (l : List Nat) (s p q : Nat) (hp : (s, p) ∈ all l) (hq : (s, q) ∈ all l) : p = q := by
  have hn : ((all l).map Prod.fst).Nodup := by rw [all, spans_syms]; exact nodup_ordered l 16
  have key : ∀ L : List (Nat × Nat), (L.map Prod.fst).Nodup → (s, p) ∈ L → (s, q) ∈ L → p = q := by
    intro L hL h1 h2
    induction L with
    | nil => cases h1
    | cons x L ih =>
      rw [List.map_cons, List.nodup_cons] at hL
      rcases List.mem_cons.1 h1 with e1 | h1 <;> rcases List.mem_cons.1 h2 with e2 | h2
      · rw [← e1] at e2; exact (Prod.mk.inj e2).2.symm
      · exfalso; exact hL.1 (by rw [← e1]; exact List.mem_map.2 ⟨_, h2, rfl⟩)
      · exfalso; exact hL.1 (by rw [← e2]; exact List.mem_map.2 ⟨_, h1, rfl⟩)
      · exact ih hL.2 h1 h2
  exact key _ hn hp hq
/-- Two symbols' spans have no row in common. -/
theorem all_apart (l : List Nat) (s t p q v : Nat) (hp : (s, p) ∈ all l) (hq : (t, q) ∈ all l) (h1 : p ≤ v) (h2 : v < p + room l s) (h3 : q ≤ v) (h4 : v < q + room l t) : s = t := by
  have key : ∀ L : List (Nat × Nat), L.Pairwise (fun x y => x.2 + room l x.1 ≤ y.2) → (s, p) ∈ L → (t, q) ∈ L → s = t := by
    intro L hL m1 m2
    induction L with
    | nil => cases m1
    | cons x L ih =>
      obtain ⟨hx, hL'⟩ := List.pairwise_cons.1 hL
      rcases List.mem_cons.1 m1 with e1 | m1 <;> rcases List.mem_cons.1 m2 with e2 | m2
      · rw [← e1] at e2; exact (Prod.mk.inj e2).1.symm
      · have := hx _ m2
        rw [← e1] at this
        simp only at this
        omega
      · have := hx _ m1
        rw [← e2] at this
        simp only at this
        omega
      · exact ih hL' m1 m2
  exact key _ (spans_apart l 0 _) hp hq
theorem all_within (l : List Nat) (x : Nat × Nat) (h : x ∈ all l) : x.2 + room l x.1 ≤ rooms l (ordered l 16) := by
  have := (spans_within l 0 _ x h).2
  omega
theorem all_cover (l : List Nat) (v : Nat) (h : v < rooms l (ordered l 16)) : ∃ x ∈ all l, x.2 ≤ v ∧ v < x.2 + room l x.1 := spans_cover l 0 _ v (Nat.zero_le _) (by omega)

/-- The weight is the room of all symbols. -/
def weight (l : List Nat) : Nat := ((List.range l.length).map (fun s => if l.getD s 0 = 0 then 0 else room l s)).sum
theorem rooms_ofLen (l : List Nat) (n : Nat) : rooms l (ofLen l n) = ((List.range l.length).map (fun s => if l.getD s 0 = n then room l s else 0)).sum := by
  unfold rooms ofLen
  generalize List.range l.length = L
  induction L with
  | nil => rfl
  | cons s L ih =>
    by_cases h : l.getD s 0 = n
    · rw [List.filter_cons_of_pos (by rw [h]; exact beq_self_eq_true n), List.map_cons, List.sum_cons, List.map_cons, List.sum_cons, if_pos h, ih]
    · rw [List.filter_cons_of_neg (by simpa using h), List.map_cons, List.sum_cons, if_neg h, ih, Nat.zero_add]
theorem rooms_ordered (l : List Nat) (n : Nat) : rooms l (ordered l n) = ((List.range l.length).map (fun s => if 1 ≤ l.getD s 0 ∧ l.getD s 0 ≤ n then room l s else 0)).sum := by
  induction n with
  | zero =>
    rw [ordered, rooms_nil]
    have : ∀ L : List Nat, (L.map (fun s => if 1 ≤ l.getD s 0 ∧ l.getD s 0 ≤ 0 then room l s else 0)).sum = 0 := by
      intro L
      induction L with
      | nil => rfl
      | cons s L ih => rw [List.map_cons, List.sum_cons, ih, if_neg (by omega)]
    exact (this _).symm
  | succ n ih =>
    rw [ordered, rooms_append, ih, rooms_ofLen]
    generalize List.range l.length = L
    induction L with
    | nil => rfl
    | cons s L ihL =>
      simp only [List.map_cons, List.sum_cons]
      by_cases h1 : l.getD s 0 = n + 1
      · rw [if_neg (by omega), if_pos h1, if_pos (by omega)]
        omega
      · by_cases h2 : 1 ≤ l.getD s 0 ∧ l.getD s 0 ≤ n
        · rw [if_pos h2, if_neg h1, if_pos (by omega)]
          omega
        · rw [if_neg h2, if_neg h1, if_neg (by omega)]
          omega
theorem weight_eq (l : List Nat) (h : ∀ s, l.getD s 0 ≤ 16) : weight l = rooms l (ordered l 16) := by
  rw [rooms_ordered]
  unfold weight
  congr 1
  refine List.map_congr_left ?_
  intro s _
  by_cases h0 : l.getD s 0 = 0
  · rw [if_pos h0, if_neg (by omega)]
  · rw [if_neg h0, if_pos ⟨by omega, h s⟩]

/-- A code, of its span's first bits. -/
def codeOf (l : List Nat) (x : Nat × Nat) : Nat := x.2 / room l x.1
theorem code_span (l : List Nat) (x : Nat × Nat) (h : x ∈ all l) : codeOf l x * room l x.1 = x.2 := Nat.div_mul_cancel (all_even l x h)
/-- Which rows begin with a code: those of its span. -/
theorem code_begins (l : List Nat) (x : Nat × Nat) (h : x ∈ all l) (v : Nat) : v / room l x.1 = codeOf l x ↔ x.2 ≤ v ∧ v < x.2 + room l x.1 := by
  have e := code_span l x h
  have hp := room_pos l x.1
  constructor
  · intro hv
    have h1 : codeOf l x * room l x.1 ≤ v := by rw [← hv]; exact Nat.div_mul_le_self _ _
    have h2 : v < (codeOf l x + 1) * room l x.1 := by rw [← hv, Nat.mul_comm]; exact Nat.lt_mul_div_succ _ hp
    rw [Nat.add_mul, Nat.one_mul] at h2
    omega
  · rintro ⟨h1, h2⟩
    refine Nat.div_eq_of_lt_le ?_ ?_
    · omega
    · rw [Nat.add_mul, Nat.one_mul]; omega
theorem code_lt (l : List Nat) (x : Nat × Nat) (h : x ∈ all l) (hl : l.getD x.1 0 ≤ 16) (hw : rooms l (ordered l 16) ≤ 65536) : codeOf l x < 2 ^ l.getD x.1 0 := by
  have h1 := all_within l x h
  have e := code_span l x h
  have hp := room_pos l x.1
  have e2 : 2 ^ l.getD x.1 0 * room l x.1 = 65536 := by
    unfold room
    rw [← Nat.pow_add, show l.getD x.1 0 + (16 - l.getD x.1 0) = 16 by omega]
  refine Nat.lt_of_mul_lt_mul_right (a := room l x.1) ?_
  rw [e, e2]
  omega
end Go.Proofs.YtpmoknnhgginjaaDoor.Hu.Huff

/- The document's codes, symbol by symbol, as plain data; the contract of the document's Codes. -/
namespace Go.Proofs.YtpmoknnhgginjaaDoor.Hu
open Go.RowKit
set_option linter.unusedVariables false

/-- A symbol's code, of the symbols so far: where its span begins, by its room. -/
def outOf (l os : List Nat) (t : Nat) : Nat := match (Huff.spans l 0 os).find? (fun x => x.1 == t) with
  | some x => x.2 / Huff.room l x.1
  | none => 0
def codesOf (l : List Nat) : List Nat := (List.range l.length).map (outOf l (Huff.ordered l 16))
theorem outOf_nil (l : List Nat) (t : Nat) : outOf l [] t = 0 := rfl
theorem find_none (l os : List Nat) (p t : Nat) (h : t ∉ os) : (Huff.spans l p os).find? (fun x => x.1 == t) = none := by
  rw [List.find?_eq_none]
  intro x hx
  have hm : x.1 ∈ (Huff.spans l p os).map Prod.fst := List.mem_map.2 ⟨x, hx, rfl⟩
  rw [Huff.spans_syms] at hm
  intro e
  exact h ((beq_iff_eq.1 e) ▸ hm)
theorem outOf_snoc (l os : List Nat) (s t : Nat) (hs : s ∉ os) : outOf l (os ++ [s]) t = if t = s then Huff.rooms l os / Huff.room l s else outOf l os t := by
  unfold outOf
  rw [Huff.spans_append, List.find?_append, Nat.zero_add]
  by_cases h : t = s
  · subst h
    rw [find_none l os 0 t hs, if_pos rfl]
    simp [Huff.spans]
  · rw [if_neg h]
    have e : List.find? (fun x => x.1 == t) (Huff.spans l (Huff.rooms l os) [s]) = none := find_none l [s] _ t (by simpa using h)
    rw [e]
    cases List.find? (fun x => x.1 == t) (Huff.spans l 0 os) <;> rfl
theorem outOf_mem (l os : List Nat) (t p : Nat) (hn : os.Nodup) (h : (t, p) ∈ Huff.spans l 0 os) : outOf l os t = p / Huff.room l t := by
  have key : ∀ (L : List (Nat × Nat)), (L.map Prod.fst).Nodup → (t, p) ∈ L → L.find? (fun x => x.1 == t) = some (t, p) := by
    intro L hL hm
    induction L with
    | nil => cases hm
    | cons x L ih =>
      rw [List.map_cons, List.nodup_cons] at hL
      rcases List.mem_cons.1 hm with e | hm
      · subst e; simp
      · have hx : x.1 ≠ t := fun e => hL.1 (e ▸ List.mem_map.2 ⟨_, hm, rfl⟩)
        rw [List.find?_cons_of_neg (by simpa using hx)]
        exact ih hL.2 hm
  unfold outOf
  rw [key _ (by rw [Huff.spans_syms]; exact hn) h]
theorem codesOf_get (l : List Nat) (j : Nat) (hj : j < l.length) : (codesOf l).getD j 0 = outOf l (Huff.ordered l 16) j := by
  unfold codesOf
  generalize Huff.ordered l 16 = os
  rw [List.getD_eq_getElem?_getD, List.getElem?_map, List.getElem?_range hj, Option.map_some, Option.getD_some]
theorem codesOf_length (l : List Nat) : (codesOf l).length = l.length := by simp [codesOf]

/-- The symbols of one length, of those below s. -/
def upto (l : List Nat) (n s : Nat) : List Nat := (List.range s).filter (fun t => l.getD t 0 == n)
theorem upto_zero (l : List Nat) (n : Nat) : upto l n 0 = [] := rfl
theorem upto_succ (l : List Nat) (n s : Nat) : upto l n (s + 1) = upto l n s ++ (if l.getD s 0 = n then [s] else []) := by
  unfold upto
  rw [List.range_succ, List.filter_append]
  congr 1
  by_cases h : l.getD s 0 = n
  · rw [if_pos h, List.filter_cons_of_pos (by rw [h]; exact beq_self_eq_true n)]; rfl
  · rw [if_neg h, List.filter_cons_of_neg (by simpa using h)]; rfl
theorem upto_all (l : List Nat) (n : Nat) : upto l n l.length = Huff.ofLen l n := rfl
theorem upto_lt (l : List Nat) (n s t : Nat) (h : t ∈ upto l n s) : t < s ∧ l.getD t 0 = n := by
  unfold upto at h
  simpa using h
/-- The symbols so far. -/
def sofar (l : List Nat) (n s : Nat) : List Nat := Huff.ordered l n ++ upto l (n + 1) s
theorem sofar_prefix (l : List Nat) (n s : Nat) (hs : s ≤ l.length) (hn : n < 16) : ∃ rest, sofar l n s ++ rest = Huff.ordered l 16 := by
  have h1 : ∃ r, upto l (n + 1) s ++ r = Huff.ofLen l (n + 1) := by
    refine ⟨((List.range' s (l.length - s)).filter (fun t => l.getD t 0 == n + 1)), ?_⟩
    unfold upto Huff.ofLen
    rw [← List.filter_append]
    congr 1
    have e : List.range' 0 s ++ List.range' (0 + s) (l.length - s) = List.range' 0 (s + (l.length - s)) := List.range'_append_1
    rw [Nat.zero_add, show s + (l.length - s) = l.length by omega] at e
    rw [List.range_eq_range', List.range_eq_range', e]
  have h2 : ∀ k, ∃ r, Huff.ordered l (n + 1) ++ r = Huff.ordered l (n + 1 + k) := by
    intro k
    induction k with
    | zero => exact ⟨[], by simp⟩
    | succ k ih =>
      obtain ⟨r, hr⟩ := ih
      exact ⟨r ++ Huff.ofLen l (n + 1 + k + 1), by rw [← List.append_assoc, hr]; rfl⟩
  obtain ⟨r1, e1⟩ := h1
  obtain ⟨r2, e2⟩ := h2 (15 - n)
  rw [show n + 1 + (15 - n) = 16 by omega] at e2
  refine ⟨r1 ++ r2, ?_⟩
  unfold sofar
  rw [List.append_assoc, ← List.append_assoc _ r1, e1, ← List.append_assoc, ← e2]
  rfl
theorem sofar_rooms (l : List Nat) (n s : Nat) (hs : s ≤ l.length) (hn : n < 16) (hw : Huff.rooms l (Huff.ordered l 16) ≤ 65536) : Huff.rooms l (sofar l n s) ≤ 65536 := by
  obtain ⟨r, e⟩ := sofar_prefix l n s hs hn
  rw [← e, Huff.rooms_append] at hw
  omega
theorem sofar_not (l : List Nat) (n s : Nat) (h : l.getD s 0 = n + 1) : s ∉ sofar l n s := by
  unfold sofar
  rw [List.mem_append]
  rintro (h1 | h1)
  · have := (Huff.mem_ordered l n s).1 h1; omega
  · have := upto_lt l (n + 1) s s h1; omega
theorem sofar_end (l : List Nat) (n : Nat) : sofar l n l.length = sofar l (n + 1) 0 := by
  unfold sofar
  rw [upto_zero, List.append_nil, upto_all]
  rfl
theorem sofar_zero (l : List Nat) (n : Nat) : sofar l n 0 = Huff.ordered l n := by
  unfold sofar
  rw [upto_zero, List.append_nil]
theorem sofar_skip (l : List Nat) (n s : Nat) (h : l.getD s 0 ≠ n + 1) : sofar l n (s + 1) = sofar l n s := by
  unfold sofar
  rw [upto_succ, if_neg h, List.append_nil]
theorem sofar_more (l : List Nat) (n s : Nat) (h : l.getD s 0 = n + 1) : sofar l n (s + 1) = sofar l n s ++ [s] := by
  unfold sofar
  rw [upto_succ, if_pos h, List.append_assoc]

/-- The last code and its length, so far. -/
def Last (l os : List Nat) (n last code : Nat) : Prop :=
  (os = [] ∧ last = 0 ∧ code = 0) ∨ (1 ≤ last ∧ last ≤ n ∧ (code + 1) * 2 ^ (16 - last) = Huff.rooms l os)
/-- The next code. -/
def nextCode (n last code : Nat) : Nat := if last = 0 then 0 else (code + 1) * 2 ^ (n - last)
theorem last_next {l os : List Nat} {n last code s : Nat} (h : Last l os n last code) (hn : n ≤ 16) (hs : l.getD s 0 = n) (h1 : 1 ≤ n) :
    Huff.rooms l os / Huff.room l s = nextCode n last code ∧ Last l (os ++ [s]) n n (nextCode n last code) ∧ nextCode n last code * 2 ^ (16 - n) = Huff.rooms l os := by
  have hr : Huff.room l s = 2 ^ (16 - n) := by unfold Huff.room; rw [hs]
  have hp : nextCode n last code * 2 ^ (16 - n) = Huff.rooms l os := by
    rcases h with ⟨rfl, rfl, rfl⟩ | ⟨h1, h2, h3⟩
    · simp [nextCode, Huff.rooms_nil]
    · rw [← h3, nextCode, if_neg (by omega), Nat.mul_assoc, ← Nat.pow_add, show n - last + (16 - n) = 16 - last by omega]
  refine ⟨?_, Or.inr ⟨h1, Nat.le_refl _, ?_⟩, hp⟩
  · rw [hr, ← hp, Nat.mul_div_cancel _ (Nat.two_pow_pos _)]
  · rw [Huff.rooms_append, Nat.add_mul, Nat.one_mul, hp, Huff.rooms_cons, Huff.rooms_nil, hr, Nat.add_zero]

theorem Last.le {l os : List Nat} {n last code : Nat} (h : Last l os n last code) : last ≤ n := by
  rcases h with ⟨_, rfl, _⟩ | ⟨_, h, _⟩
  · omega
  · exact h
theorem Last.later {l os : List Nat} {n m last code : Nat} (h : Last l os n last code) (hm : n ≤ m) : Last l os m last code := by
  rcases h with h | ⟨h1, h2, h3⟩
  · exact Or.inl h
  · exact Or.inr ⟨h1, by omega, h3⟩
theorem Last.code_le {l os : List Nat} {n last code : Nat} (h : Last l os n last code) (hr : Huff.rooms l os ≤ 65536) : code ≤ 65536 := by
  rcases h with ⟨_, _, rfl⟩ | ⟨h1, h2, h3⟩
  · omega
  · have hp := Nat.two_pow_pos (16 - last)
    have : (code + 1) * 1 ≤ (code + 1) * 2 ^ (16 - last) := Nat.mul_le_mul_left _ hp
    omega

/-- A row of whole numbers that the call writes. -/
def Row (w : World) (g n : Nat) (f : Nat → Int) : Prop :=
  ∃ cur : Array Value, w.heap[g]? = some (.cells cur 3 (0, 0)) ∧ n ≤ cur.size ∧ ∀ j, j < n → cur[j]? = some (.int .i64 (f j))
theorem Row.cell {w : World} {g n j : Nat} {f : Nat → Int} (h : Row w g n f) (hj : j < n) : w.cell? ⟨g, j, none⟩ = some (.int .i64 (f j)) ∧ w.frozen? ⟨g, j, none⟩ = false := by
  obtain ⟨cur, h1, h2, h3⟩ := h
  exact ⟨by simp [World.cell?, h1, h3 j hj], by simp [World.frozen?, h1]⟩
theorem Row.set {w : World} {g n i : Nat} {f f' : Nat → Int} {z : Int} (h : Row w g n f) (hi : i < n) (hf : ∀ j, j < n → f' j = if j = i then z else f j) : Row (w.setCell ⟨g, i, none⟩ (.int .i64 z)) g n f' := by
  obtain ⟨cur, h1, h2, h3⟩ := h
  refine ⟨cur.setIfInBounds i (.int .i64 z), ?_, by simpa using h2, fun j hj => ?_⟩
  · simp only [World.setCell, Array.getElem?_modify, h1]
    simp
  · rw [hf j hj]
    by_cases e : i = j
    · subst e
      rw [Array.getElem?_setIfInBounds_self_of_lt (by omega), if_pos rfl]
    · rw [Array.getElem?_setIfInBounds_ne e, if_neg (fun h => e h.symm)]
      exact h3 j hj
theorem Row.lt {w : World} {g n : Nat} {f : Nat → Int} (h : Row w g n f) : g < w.heap.size := by
  obtain ⟨cur, h1, _⟩ := h
  exact lt_of_block h1
theorem Row.later {w w' : World} {g n : Nat} {f : Nat → Int} (h : Row w g n f) (hb : w'.heap[g]? = w.heap[g]?) : Row w' g n f := by
  obtain ⟨cur, h1, h2⟩ := h
  exact ⟨cur, hb.trans h1, h2⟩
theorem Row.congr {w : World} {g n : Nat} {f f' : Nat → Int} (h : Row w g n f) (he : ∀ j, j < n → f' j = f j) : Row w g n f' := by
  obtain ⟨cur, h1, h2, h3⟩ := h
  exact ⟨cur, h1, h2, fun j hj => by rw [he j hj]; exact h3 j hj⟩
theorem Row.ints {w : World} {g n : Nat} {f : Nat → Int} {zs : List Int} (h : Row w g n f) (hl : zs.length = n) (hz : ∀ z ∈ zs, -9223372036854775808 ≤ z ∧ z ≤ 9223372036854775807) (hf : ∀ j, j < n → zs[j]? = some (f j)) : Ints w (some ⟨g, 0, none⟩) n zs := by
  refine ⟨hl, hz, fun _ => ⟨g, 0, rfl, fun j z hj => ?_⟩⟩
  have hjn : j < n := by have := (List.getElem?_eq_some_iff.1 hj).1; omega
  have k := (h.cell hjn).1
  have e := hf j hjn
  rw [hj] at e
  rw [Option.some.inj e, Nat.zero_add]
  exact k
theorem made_row (w : World) (n : Nat) : Row (w.alloc (.cells (madeCells #[.int .i64 0] n) 3)) w.heap.size n (fun _ => 0) :=
  ⟨_, heap_alloc_new _ _, by rw [size_madeCells]; exact Nat.le_refl _, fun j hj => by simp [madeCells, hj, Nat.mod_one]⟩
theorem below_set {B : Nat} {w w1 : World} (h : Below B w w1) {g i : Nat} (hg : B ≤ g) (v : Value) : Below B w (w1.setCell ⟨g, i, none⟩ v) :=
  ⟨h.os, h.tape, h.output, by simp [World.setCell]; exact h.size, fun k hk => (Below.heap_setCell _ _ _ _ (by simp only; omega)).trans (h.block k hk)⟩
theorem info3 : (Tryd.prog.info? 3).map (fun i => (i.zero, i.size, i.bytes)) = some (some (.int .i64 0), 1, 8) := by kernel_rfl
end Go.Proofs.YtpmoknnhgginjaaDoor.Hu

/- The contract of the document's Codes. -/
namespace Go.Proofs.YtpmoknnhgginjaaDoor.Hu
open Go.RowKit
set_option linter.unusedVariables false

theorem nats_length (zs : List Int) : (nats zs).length = zs.length := by simp [nats]
theorem nats_get {zs : List Int} {i : Nat} {z : Int} (h : zs[i]? = some z) : (nats zs).getD i 0 = z.toNat := by
  unfold nats
  rw [List.getD_eq_getElem?_getD, List.getElem?_map, h]
  rfl
theorem weightS_rooms (l : List Nat) (h : ∀ s, l.getD s 0 ≤ 16) : weightS l = Huff.rooms l (Huff.ordered l 16) := by
  rw [← Huff.weight_eq l h]
  unfold weightS Huff.weight
  congr 1
  apply List.ext_getElem
  · simp
  · intro i h1 h2
    simp only [List.length_map] at h1
    simp only [List.getElem_map, List.getElem_range]
    rw [List.getD_eq_getElem?_getD, List.getElem?_eq_getElem h1]
    simp only [Option.getD_some, wt, Huff.room]
    rw [List.getD_eq_getElem?_getD, List.getElem?_eq_getElem h1]
    rfl
theorem lens_le {zs : List Int} (h : lensOk zs = true) (s : Nat) : (nats zs).getD s 0 ≤ 16 := by
  unfold lensOk at h
  simp only [decide_eq_true_eq] at h
  rw [List.getD_eq_getElem?_getD]
  cases hz : (nats zs)[s]? with
  | none => simp
  | some v =>
    unfold nats at hz
    rw [List.getElem?_map] at hz
    obtain ⟨z, hz1, hz2⟩ := Option.map_eq_some_iff.1 hz
    have := h.2 z (List.mem_of_getElem? hz1)
    simp only [Option.getD_some]
    omega

/-- Codes that are told: memory of the call's own. -/
def CodesTold (w : World) (n : Nat) (l : List Nat) (e : Ending) (w' : World) : Prop :=
  ∃ g, e = .returned (.tuple #[.slice (some ⟨g, 0, none⟩) n n, .bool true]) ∧ w.heap.size ≤ g ∧ Row w' g n (fun j => ((codesOf l).getD j 0 : Nat)) ∧ Below w.heap.size w w'
/-- Lengths that have codes. -/
def mayCode (zs : List Int) : Bool := lensOk zs && decide (weightZ zs ≤ 65536)

theorem docCodes_no (w : World) (a : Option Addr) (n c : Nat) (zs : List Int) (h : Ints w a n zs) (hn : n ≤ 16777216) (hno : mayCode zs = false) :
    Calls Tryd.prog 37 #[.slice a n c] w fun e w' => e = .returned (.tuple #[.slice none 0 0, .bool false]) ∧ w' = w := by
  have C := docWeight_any w a n c zs h hn
  go_enter Tryd.func37, Tryd.ntmps37
  cases hl : lensOk zs
  · rw [hl] at C
    have C := Lib.hid C
    go_wp2_with fail
    refine C.out.mono ?_
    rintro e w1 ⟨rfl, rfl⟩
    go_wp2_with fail
    go_ret2
    exact ⟨rfl, rfl⟩
  · rw [hl] at C
    have hw : 65536 < weightZ zs := by
      unfold mayCode at hno
      rw [hl, Bool.true_and] at hno
      simp only [decide_eq_false_iff_not] at hno
      omega
    generalize weightZ zs = x at *
    have u : decide ((65536 : Int) < (x : Int)) = true := by simp; omega
    have C := Lib.hid C
    go_wp2_with fail
    refine C.out.mono ?_
    rintro e w1 ⟨rfl, rfl⟩
    go_wp2_with fail
    go_ret2
    exact ⟨rfl, rfl⟩

set_option maxRecDepth 100000 in
set_option maxHeartbeats 600000 in
theorem docCodes_yes (w : World) (a : Option Addr) (n c : Nat) (zs : List Int) (h : Ints w a n zs) (hn : n ≤ 16777216) (hyes : mayCode zs = true) :
    Calls Tryd.prog 37 #[.slice a n c] w (CodesTold w n (nats zs)) := by
  unfold mayCode at hyes
  simp only [Bool.and_eq_true, decide_eq_true_eq] at hyes
  obtain ⟨hl, hw⟩ := hyes
  have C := docWeight_any w a n c zs h hn
  rw [hl] at C
  have hwr : Huff.rooms (nats zs) (Huff.ordered (nats zs) 16) ≤ 65536 := by
    rw [← weightS_rooms _ (lens_le hl)]
    unfold weightZ at hw
    rw [hl] at hw
    exact hw
  have HZ := Lib.hid h
  have HWR := Lib.hid hwr
  have HLE := Lib.hid (lens_le hl)
  have hlen : (nats zs).length = n := by rw [nats_length, h.1]
  have hget : ∀ i z, zs[i]? = some z → (nats zs).getD i 0 = z.toNat := fun i z hz => nats_get hz
  have hzr : ∀ z ∈ zs, 0 ≤ z ∧ z ≤ 16 := by
    unfold lensOk at hl
    simp only [decide_eq_true_eq] at hl
    exact hl.2
  generalize nats zs = l at *
  have HLEN := Lib.hid hlen
  have HGET := Lib.hid hget
  have HZR := Lib.hid hzr
  generalize weightZ zs = x at *
  have u : decide ((65536 : Int) < (x : Int)) = false := by simp; omega
  have hmk := run_make_row' (P := Tryd.prog) 35 3 (.int .i64 0) 8 Tryd.underlying35 info3 rfl .i64 .i64 n (by omega) (by omega)
  have C := Lib.hid C
  clear h hl hw hwr hlen hget hzr
  go_enter Tryd.func37, Tryd.ntmps37
  go_wp2_with fail
  refine C.out.mono ?_
  rintro e w1 ⟨rfl, rfl⟩
  go_wp2_with fail
  go_loopw [7, 8, 9] (fun code last cnt wr => ∃ k lst cd : Nat, k ≤ 16 ∧ cnt = .int .i64 ((k + 1 : Nat) : Int) ∧ last = .int .i64 lst ∧ code = .int .i64 cd ∧ Last l (sofar l k 0) k lst cd ∧ Row wr w1.heap.size n (fun j => (outOf l (sofar l k 0) j : Nat)) ∧ Below w1.heap.size w1 wr) (fun _ _ cnt _ => 17 - (intOf cnt).toNat)
  case atStart => exact ⟨0, 0, 0, Nat.zero_le _, rfl, rfl, rfl, Or.inl ⟨rfl, rfl, rfl⟩, made_row w1 n, (Below.refl _ _).alloc (Nat.le_refl _) _⟩
  case round =>
    obtain ⟨k, lst, cd, hk, rfl, rfl, rfl, hlast, hrow, hbel⟩ := hrel
    by_cases hk16 : k < 16
    · have HL := Lib.hid hlast
      have HR := Lib.hid hrow
      have HB := Lib.hid hbel
      clear hlast hrow hbel
      obtain ⟨m, hm⟩ : ∃ m, m = k + 1 := ⟨_, rfl⟩
      rw [← hm]
      have HM := Lib.hid hm
      have hm16 : m ≤ 16 := by omega
      have v : decide ((m : Int) ≤ 16) = true := by simp; omega
      clear hm
      go_wp2_with fail
      go_loopw [7, 8, 10] (fun code last cnt wl => ∃ s lst cd : Nat, s ≤ n ∧ cnt = .int .i64 s ∧ last = .int .i64 lst ∧ code = .int .i64 cd ∧ Last l (sofar l k s) m lst cd ∧ Row wl w1.heap.size n (fun j => (outOf l (sofar l k s) j : Nat)) ∧ Below w1.heap.size w1 wl) (fun _ _ cnt _ => n - (intOf cnt).toNat)
      case atStart => exact ⟨0, lst, cd, Nat.zero_le _, rfl, rfl, rfl, HL.out.later (by have := HM.out; omega), HR.out, HB.out⟩
      case round =>
        clear HL HR HB
        obtain ⟨s, lst, cd, hs, rfl, rfl, rfl, hlast, hrow, hbel⟩ := hrel
        by_cases hsn : s < n
        · obtain ⟨b, off, z, rfl, hz, hzb, hcell0⟩ := (HZ.out.later hbel.block).at hsn
          have hzz := HZR.out z (List.mem_of_getElem? hz)
          obtain ⟨y, rfl⟩ := Int.eq_ofNat_of_zero_le hzz.1
          have hy : l.getD s 0 = y := by have := HGET.out s _ hz; simpa using this
          have hcell : wr.cell? ⟨b, off + s, none⟩ = some (.int .i64 (y : Int)) := hcell0
          by_cases hym : y = m
          · have hsof := sofar_more l k s (by rw [hy, hym, HM.out])
            have hnot := sofar_not l k s (by rw [hy, hym, HM.out])
            obtain ⟨q1, q2, q3⟩ := last_next hlast hm16 (by rw [hy, hym]) (by have := HM.out; omega)
            have hrle := sofar_rooms l k s (by rw [HLEN.out]; exact hs) hk16 HWR.out
            have hcd := hlast.code_le hrle
            have hll := hlast.le
            obtain ⟨old, hold, hfr⟩ : ∃ old : Int, wr.cell? ⟨w1.heap.size, s, none⟩ = some (.int .i64 old) ∧ wr.frozen? ⟨w1.heap.size, s, none⟩ = false := ⟨_, hrow.cell hsn⟩
            have X := Lib.hid (show Last l (sofar l k (s + 1)) m m (nextCode m lst cd) ∧ (∀ z : Int, z = (nextCode m lst cd : Nat) → Row (wr.setCell ⟨w1.heap.size, s, none⟩ (.int .i64 z)) w1.heap.size n (fun j => (outOf l (sofar l k (s + 1)) j : Nat))) ∧ (∀ z : Value, Below w1.heap.size w1 (wr.setCell ⟨w1.heap.size, s, none⟩ z)) from by
              rw [hsof]
              refine ⟨q2, fun z hz => ?_, fun z => below_set hbel (Nat.le_refl _) z⟩
              refine hrow.set hsn (fun j hj => ?_)
              rw [outOf_snoc l _ s j hnot, q1, hz]
              split <;> rfl)
            have hcd0 : lst = 0 → cd = 0 := fun e => by
              rcases hlast with ⟨_, _, h⟩ | ⟨h, _⟩
              · exact h
              · omega
            have hncl : nextCode m lst cd ≤ 65536 := q2.code_le (by rw [← hsof]; exact sofar_rooms l k (s + 1) (by rw [HLEN.out]; omega) hk16 HWR.out)
            have hncv : lst ≠ 0 → nextCode m lst cd = (cd + 1) * 2 ^ (m - lst) := fun h => by rw [nextCode, if_neg h]
            have hnc0 : lst = 0 → nextCode m lst cd = 0 := fun h => by rw [nextCode, if_pos h]
            subst hym
            have u1 : ((y : Int) != (y : Int)) = false := by simp
            clear hlast hrow hbel q1 q2 q3 hsof hnot hz hzb hcell0 hzz hy hrle
            generalize nextCode y lst cd = nc at *
            by_cases hl0 : lst = 0
            · obtain rfl := hcd0 hl0
              obtain rfl := hnc0 hl0
              subst hl0
              clear hcd0 hnc0 hncv hncl
              go_wp2_with fail
              go_roundw
              case rel => exact ⟨s + 1, y, 0, by omega, by go_num, rfl, rfl, X.out.1, X.out.2.1 _ rfl, X.out.2.2 _⟩
              case measure => simp [intOf]; omega
            · obtain ⟨d, hd⟩ : ∃ d, d = y - lst := ⟨_, rfl⟩
              have u2 : decide ((0 : Int) < (lst : Int)) = true := by simp; omega
              have hdi : (y : Int) - (lst : Int) = (d : Int) := by omega
              have hv := hncv hl0
              rw [← hd] at hv
              have hvi : ((cd : Int) + 1) * 2 ^ d = (nc : Int) := by rw [hv]; simp
              have hdl : d ≤ 16 := by omega
              obtain ⟨c1, hc1⟩ : ∃ c1 : Nat, (cd : Int) + 1 = (c1 : Int) := ⟨cd + 1, by omega⟩
              rw [hc1] at hvi
              have hvm : (c1 : Int) * 2 ^ min d 64 = (nc : Int) := by rw [Nat.min_eq_left (by omega)]; exact hvi
              have hd0 : (0 : Int) ≤ (d : Int) := by omega
              have hd64 : (d : Int) ≤ 64 := by omega
              have hw2 : IntKind.i64.wrap ((c1 : Int) * 2 ^ d) = (nc : Int) := by rw [hvi, wrap_i64 _ (by omega) (by omega)]
              have hw3 : wrap64 ((c1 : Int) * 2 ^ d) = (nc : Int) := by rw [hvi, IntWalk.wrap64_in _ (by omega)]
              have hl1 : 0 < lst := by omega
              clear hcd0 hnc0 hncv hd hv hl0 u2 hvm hvi
              go_wp2
              go_roundw
              case rel => exact ⟨s + 1, y, nc, by omega, by go_num, rfl, rfl, X.out.1, X.out.2.1 _ rfl, X.out.2.2 _⟩
              case measure => simp [intOf]; omega
          · have hsof := sofar_skip l k s (by rw [hy, ← HM.out]; exact hym)
            have u1 : ((y : Int) != (m : Int)) = true := by simp; omega
            have X := Lib.hid (And.intro hlast (And.intro hrow hbel))
            rw [← hsof] at X
            clear hlast hrow hbel hsof hz hzb hcell0 hzz hy
            go_wp2_with fail
            go_roundw
            case rel => exact ⟨s + 1, lst, cd, by omega, by go_num, rfl, rfl, X.out.1, X.out.2.1, X.out.2.2⟩
            case measure => simp [intOf]; omega
        · obtain rfl : s = n := by omega
          have e := sofar_end l k
          rw [HLEN.out] at e
          rw [e, ← HM.out] at hlast hrow
          have X := Lib.hid (And.intro hlast (And.intro hrow hbel))
          clear hlast hrow hbel e
          go_wp2_with fail
          go_roundw
          case rel => exact ⟨m, lst, cd, by omega, by go_num, rfl, rfl, X.out.1, X.out.2.1, X.out.2.2⟩
          case measure => have := HM.out; simp [intOf]; omega
    · have hk2 : k = 16 := by omega
      have X : CodesTold w1 n l (.returned (.tuple #[.slice (some ⟨w1.heap.size, 0, none⟩) n n, .bool true])) wr := by
        refine ⟨_, rfl, Nat.le_refl _, hrow.congr (fun j hj => ?_), hbel⟩
        rw [hk2, sofar_zero, codesOf_get _ _ (by rw [HLEN.out]; exact hj)]
      have X := Lib.hid X
      obtain ⟨m, hm⟩ : ∃ m : Nat, m = k + 1 := ⟨_, rfl⟩
      rw [← hm]
      have v : decide ((m : Int) ≤ 16) = false := by simp; omega
      clear hlast hrow hbel hm hk2 hk16 hk
      go_wp2_with fail
      go_ret2
      exact X.out
end Go.Proofs.YtpmoknnhgginjaaDoor.Hu

/- The contracts of the document's Find and Begins. -/
namespace Go.Proofs.YtpmoknnhgginjaaDoor.Hu
open Go.RowKit
set_option linter.unusedVariables false

/-- A symbol whose code is so many bits that are a number. -/
def isCode (zs cs : List Int) (n v : Int) (s : Nat) : Bool := zs.getD s 0 == n && cs.getD s 0 == v
def findS (zs cs : List Int) (n v : Int) (k : Nat) : Option Nat := (List.range k).find? (isCode zs cs n v)
def foundZ : Option Nat → Int
  | some s => s
  | none => -1
theorem findS_more (zs cs : List Int) (n v : Int) (k : Nat) (h : findS zs cs n v k = none) : findS zs cs n v (k + 1) = if isCode zs cs n v k = true then some k else none := by
  unfold findS at h ⊢
  rw [List.range_succ, List.find?_append, h, Option.none_or]
  cases he : isCode zs cs n v k <;> simp [he]
theorem findS_stay (zs cs : List Int) (n v : Int) (k m s : Nat) (h : findS zs cs n v k = some s) (hm : k ≤ m) : findS zs cs n v m = some s := by
  unfold findS at h ⊢
  obtain ⟨d, rfl⟩ : ∃ d, m = k + d := ⟨m - k, by omega⟩
  rw [List.range_add, List.find?_append, h]
  rfl

/-- A symbol whose code begins with so many bits that are a number, and has more. -/
def longer (zs cs : List Int) (n v : Int) (s : Nat) : Bool := decide (n < zs.getD s 0) && cs.getD s 0 / 2 ^ (zs.getD s 0 - n).toNat == v
def beginsS (zs cs : List Int) (n v : Int) (k : Nat) : Bool := (List.range k).any (longer zs cs n v)
theorem beginsS_more (zs cs : List Int) (n v : Int) (k : Nat) (h : beginsS zs cs n v k = false) : beginsS zs cs n v (k + 1) = longer zs cs n v k := by
  unfold beginsS at h ⊢
  rw [List.range_succ, List.any_append, h, Bool.false_or]
  simp
theorem beginsS_stay (zs cs : List Int) (n v : Int) (k m : Nat) (h : beginsS zs cs n v k = true) (hm : k ≤ m) : beginsS zs cs n v m = true := by
  unfold beginsS at h ⊢
  obtain ⟨d, rfl⟩ : ∃ d, m = k + d := ⟨m - k, by omega⟩
  rw [List.range_add, List.any_append, h, Bool.true_or]

end Go.Proofs.YtpmoknnhgginjaaDoor.Hu

/- A tree of ways, laid code by code: what it tells on the way. No program in it. -/
namespace Go.Proofs.YtpmoknnhgginjaaDoor.Hu.Trie
set_option linter.unusedVariables false

/-- The first j bits of a code of so many bits. -/
def pre (L C j : Nat) : Nat × Nat := (j, C / 2 ^ (L - j))
theorem pre_all (L C : Nat) : pre L C L = (L, C) := by simp [pre]
theorem pre_next {L C j : Nat} (h : j + 1 ≤ L) : (pre L C (j + 1)).2 = 2 * (pre L C j).2 + C / 2 ^ (L - (j + 1)) % 2 := by
  simp only [pre]
  have e : L - j = (L - (j + 1)) + 1 := by omega
  rw [e, Nat.pow_succ, ← Nat.div_div_eq_div_mul]
  omega
theorem pre_half {L C j : Nat} (h : j + 1 ≤ L) : (pre L C (j + 1)).2 / 2 = (pre L C j).2 := by
  have := pre_next (C := C) h
  omega

/-- No code begins another. -/
def Apart (l c : Nat → Nat) (N : Nat) : Prop := ∀ s t, s < N → t < N → s ≠ t → 0 < l s → l s ≤ l t → (pre (l t) (c t) (l s)).2 ≠ c s

/-- The tree, the codes of the first k symbols laid, that of one more under way. -/
structure Tree (l c : Nat → Nat) (k : Nat) (ps : List (Nat × Nat)) (way : Nat → Nat → Int) : Prop where
  root : ps[0]? = some (0, 0)
  inj : ∀ (i j : Nat) (p : Nat × Nat), ps[i]? = some p → ps[j]? = some p → i = j
  down : ∀ (st b t n v : Nat), ps[st]? = some (n, v) → b < 2 → way st b = (t : Int) → 0 < t → ps[t]? = some (n + 1, 2 * v + b)
  leaf : ∀ (st b n v : Nat), ps[st]? = some (n, v) → b < 2 → way st b < 0 → ∃ s : Nat, s < k ∧ way st b = -(s : Int) - 1 ∧ l s = n + 1 ∧ c s = 2 * v + b
  have_ : ∀ (s j : Nat), s < k → j < l s → ∃ st : Nat, ps[st]? = some (pre (l s) (c s) j)
  ends : ∀ (s st : Nat), s < k → 0 < l s → ps[st]? = some (pre (l s) (c s) (l s - 1)) → way st (c s % 2) = -(s : Int) - 1
  of_ : ∀ (st : Nat) (p : Nat × Nat), ps[st]? = some p → 0 < st → ∃ s j : Nat, s < k + 1 ∧ 0 < j ∧ j < l s ∧ p = pre (l s) (c s) j
  up : ∀ (t : Nat) (p : Nat × Nat), ps[t]? = some p → 0 < t → ∃ st b n v : Nat, ps[st]? = some (n, v) ∧ b < 2 ∧ way st b = (t : Int)

theorem Tree.parent {l c : Nat → Nat} {k : Nat} {ps : List (Nat × Nat)} {way : Nat → Nat → Int} (h : Tree l c k ps way) {st t n v b : Nat} (hs : ps[st]? = some (n, v)) (hb : b < 2) (ht : ps[t]? = some (n + 1, 2 * v + b)) (h0 : 0 < t) : way st b = (t : Int) := by
  obtain ⟨st', b', n', v', h1, h2, h3⟩ := h.up t _ ht h0
  have h4 := h.down st' b' t n' v' h1 h2 h3 h0
  rw [ht, Option.some.injEq, Prod.mk.injEq] at h4
  have e1 : b' = b := by omega
  have e2 : (n', v') = (n, v) := by rw [Prod.mk.injEq]; omega
  rw [e2] at h1
  have := h.inj _ _ _ h1 hs
  subst this e1
  exact h3

/-- The empty tree. -/
theorem tree_none (l c : Nat → Nat) : Tree l c 0 [(0, 0)] (fun _ _ => 0) := {
  root := rfl
  inj := fun i j p h1 h2 => by
    match i, j, h1, h2 with
    | 0, 0, _, _ => rfl
    | i + 1, _, h1, _ => simp at h1
    | 0, j + 1, _, h2 => simp at h2
  down := fun st b t n v _ _ h h0 => by omega
  leaf := fun st b n v _ _ h => by omega
  have_ := fun s j h => absurd h (by omega)
  ends := fun s st h => absurd h (by omega)
  of_ := fun st p h h0 => by
    match st, h with
    | 0, _ => omega
    | st + 1, h => simp at h
  up := fun t p h h0 => by
    match t, h with
    | 0, _ => omega
    | t + 1, h => simp at h }

/-- A symbol without a code. -/
theorem Tree.skip {l c : Nat → Nat} {k : Nat} {ps : List (Nat × Nat)} {way : Nat → Nat → Int} (h : Tree l c k ps way) (h0 : l k = 0) : Tree l c (k + 1) ps way := {
  root := h.root
  inj := h.inj
  down := h.down
  leaf := fun st b n v h1 h2 h3 => by
    obtain ⟨s, q⟩ := h.leaf st b n v h1 h2 h3
    exact ⟨s, by omega, q.2⟩
  have_ := fun s j h1 h2 => by
    rcases Nat.lt_or_ge s k with h3 | h3
    · exact h.have_ s j h3 h2
    · obtain rfl : s = k := by omega
      omega
  ends := fun s st h1 h2 h3 => by
    rcases Nat.lt_or_ge s k with h4 | h4
    · exact h.ends s st h4 h2 h3
    · obtain rfl : s = k := by omega
      omega
  of_ := fun st p h1 h2 => by
    obtain ⟨s, j, q⟩ := h.of_ st p h1 h2
    exact ⟨s, j, by omega, q.2⟩
  up := h.up }

/-- On the way along the code under way: no leaf there. -/
theorem Tree.no_leaf {l c : Nat → Nat} {k N : Nat} {ps : List (Nat × Nat)} {way : Nat → Nat → Int} (h : Tree l c k ps way) (ha : Apart l c N) (hk : k < N) {st j : Nat} (hs : ps[st]? = some (pre (l k) (c k) j)) (hj : j + 1 ≤ l k) :
    0 ≤ way st (c k / 2 ^ (l k - (j + 1)) % 2) := by
  rcases Int.lt_or_le (way st (c k / 2 ^ (l k - (j + 1)) % 2)) 0 with hlt | hge
  · exfalso
    obtain ⟨s, h1, h2, h3, h4⟩ := h.leaf st _ _ _ hs (Nat.mod_lt _ (by omega)) hlt
    have h5 := pre_next (C := c k) hj
    simp only [pre] at h3 h4 h5
    refine ha s k (by omega) hk (by omega) (by omega) (by omega) ?_
    simp only [pre]
    rw [h3, h4]
    exact h5
  · exact hge
/-- A state more. -/
theorem Tree.grow {l c : Nat → Nat} {k : Nat} {ps : List (Nat × Nat)} {way way' : Nat → Nat → Int} (h : Tree l c k ps way) {st j b : Nat} (hs : ps[st]? = some (pre (l k) (c k) j)) (hj : j + 1 < l k) (hb : b = c k / 2 ^ (l k - (j + 1)) % 2) (h0 : way st b = 0)
    (hw : ∀ st' b', b' < 2 → way' st' b' = if st' = st ∧ b' = b then (ps.length : Int) else if st' = ps.length then 0 else way st' b') : Tree l c k (ps ++ [pre (l k) (c k) (j + 1)]) way' := by
  have hstl : st < ps.length := (List.getElem?_eq_some_iff.1 hs).1
  have hb2 : b < 2 := by rw [hb]; exact Nat.mod_lt _ (by omega)
  have hold : ∀ (i : Nat) (p : Nat × Nat), (ps ++ [pre (l k) (c k) (j + 1)])[i]? = some p → (i < ps.length ∧ ps[i]? = some p) ∨ (i = ps.length ∧ p = pre (l k) (c k) (j + 1)) := by
    intro i p hi
    rcases Nat.lt_or_ge i ps.length with hlt | hge
    · rw [List.getElem?_append_left hlt] at hi
      exact Or.inl ⟨hlt, hi⟩
    · rw [List.getElem?_append_right hge] at hi
      have hl := (List.getElem?_eq_some_iff.1 hi).1
      simp only [List.length_cons, List.length_nil] at hl
      have e : i = ps.length := by omega
      subst e
      rw [Nat.sub_self] at hi
      simp only [List.getElem?_cons_zero, Option.some.injEq] at hi
      exact Or.inr ⟨rfl, hi.symm⟩
  have hkeep : ∀ (i : Nat) (p : Nat × Nat), ps[i]? = some p → (ps ++ [pre (l k) (c k) (j + 1)])[i]? = some p := fun i p hi => by
    rw [List.getElem?_append_left (List.getElem?_eq_some_iff.1 hi).1]; exact hi
  have hnew : (ps ++ [pre (l k) (c k) (j + 1)])[ps.length]? = some (pre (l k) (c k) (j + 1)) := by
    rw [List.getElem?_append_right (Nat.le_refl _), Nat.sub_self]; rfl
  have hnext := pre_next (C := c k) (show j + 1 ≤ l k by omega)
  rw [← hb] at hnext
  have hpn : pre (l k) (c k) (j + 1) = (j + 1, 2 * (pre (l k) (c k) j).2 + b) := Prod.ext rfl hnext
  have hfresh : ∀ t : Nat, ps[t]? ≠ some (pre (l k) (c k) (j + 1)) := by
    intro t ht
    have ht0 : 0 < t := by
      rcases Nat.eq_zero_or_pos t with e | e
      · subst e
        rw [h.root, Option.some.injEq, hpn, Prod.mk.injEq] at ht
        omega
      · exact e
    have := h.parent (st := st) (n := j) (v := (pre (l k) (c k) j).2) hs hb2 (by rw [ht, hpn]) ht0
    omega
  refine ⟨hkeep _ _ h.root, ?_, ?_, ?_, ?_, ?_, ?_, ?_⟩
  · intro i i' p h1 h2
    rcases hold i p h1 with ⟨l1, q1⟩ | ⟨e1, q1⟩ <;> rcases hold i' p h2 with ⟨l2, q2⟩ | ⟨e2, q2⟩
    · exact h.inj _ _ _ q1 q2
    · exact absurd (q2 ▸ q1) (hfresh i)
    · exact absurd (q1 ▸ q2) (hfresh i')
    · omega
  · intro st' b' t n v h1 h2 h3 h4
    rw [hw st' b' h2] at h3
    split at h3
    · rename_i hc
      obtain ⟨rfl, rfl⟩ := hc
      obtain rfl : t = ps.length := by omega
      rcases hold _ _ h1 with ⟨l1, q1⟩ | ⟨e1, q1⟩
      · rw [hs, Option.some.injEq] at q1
        rw [hnew, hpn, q1]
        have : n = j := by have := congrArg Prod.fst q1; simp only [pre] at this; omega
        rw [this]
      · omega
    · split at h3
      · omega
      · rename_i hne
        rcases hold _ _ h1 with ⟨l1, q1⟩ | ⟨e1, q1⟩
        · exact hkeep _ _ (h.down st' b' t n v q1 h2 h3 h4)
        · exact absurd e1 hne
  · intro st' b' n v h1 h2 h3
    rw [hw st' b' h2] at h3 ⊢
    split at h3
    · omega
    · rename_i hc
      rw [if_neg hc]
      split at h3
      · omega
      · rename_i hne
        rw [if_neg hne]
        rcases hold _ _ h1 with ⟨l1, q1⟩ | ⟨e1, q1⟩
        · exact h.leaf st' b' n v q1 h2 h3
        · exact absurd e1 hne
  · intro s j' h1 h2
    obtain ⟨st', h3⟩ := h.have_ s j' h1 h2
    exact ⟨st', hkeep _ _ h3⟩
  · intro s st' h1 h2 h3
    rcases hold _ _ h3 with ⟨l1, q1⟩ | ⟨e1, q1⟩
    · have h4 := h.ends s st' h1 h2 q1
      rw [hw _ _ (Nat.mod_lt _ (by omega)), if_neg, if_neg (by omega)]
      · exact h4
      · rintro ⟨rfl, e⟩
        rw [e, h0] at h4
        omega
    · obtain ⟨st2, h5⟩ := h.have_ s (l s - 1) h1 (by omega)
      exact absurd (q1 ▸ h5) (hfresh st2)
  · intro st' p h1 h2
    rcases hold _ _ h1 with ⟨l1, q1⟩ | ⟨e1, q1⟩
    · exact h.of_ st' p q1 h2
    · exact ⟨k, j + 1, by omega, by omega, hj, q1⟩
  · intro t p h1 h2
    rcases hold _ _ h1 with ⟨l1, q1⟩ | ⟨e1, q1⟩
    · obtain ⟨st', b', n, v, h3, h4, h5⟩ := h.up t p q1 h2
      refine ⟨st', b', n, v, hkeep _ _ h3, h4, ?_⟩
      rw [hw _ _ h4, if_neg, if_neg]
      · exact h5
      · have := (List.getElem?_eq_some_iff.1 h3).1; omega
      · rintro ⟨rfl, rfl⟩
        omega
    · subst e1
      exact ⟨st, b, _, _, hkeep _ _ hs, hb2, by rw [hw _ _ hb2, if_pos ⟨rfl, rfl⟩]⟩
/-- The code's end. -/
theorem Tree.close {l c : Nat → Nat} {k N : Nat} {ps : List (Nat × Nat)} {way way' : Nat → Nat → Int} (h : Tree l c k ps way) (ha : Apart l c N) (hk : k < N) {st : Nat} (hl : 0 < l k) (hs : ps[st]? = some (pre (l k) (c k) (l k - 1))) (hall : ∀ j, j < l k → ∃ st : Nat, ps[st]? = some (pre (l k) (c k) j))
    (hw : ∀ st' b', b' < 2 → way' st' b' = if st' = st ∧ b' = c k % 2 then -(k : Int) - 1 else way st' b') : Tree l c (k + 1) ps way' := by
  have hnext := pre_next (L := l k) (C := c k) (j := l k - 1) (by omega)
  rw [show l k - 1 + 1 = l k by omega, pre_all, Nat.sub_self, Nat.pow_zero, Nat.div_one] at hnext
  simp only at hnext
  have hb2 : c k % 2 < 2 := Nat.mod_lt _ (by omega)
  have hz : way st (c k % 2) = 0 := by
    have h1 := h.no_leaf ha hk hs (by omega)
    rw [show l k - 1 + 1 = l k by omega, Nat.sub_self, Nat.pow_zero, Nat.div_one] at h1
    rcases Int.lt_or_eq_of_le h1 with h2 | h2
    · exfalso
      obtain ⟨t, ht⟩ := Int.eq_ofNat_of_zero_le h1
      have h3 := h.down st _ t _ _ hs hb2 ht (by omega)
      obtain ⟨s, j, q1, q2, q3, q4⟩ := h.of_ t _ h3 (by omega)
      have e1 : j = l k := by
        have := congrArg Prod.fst q4
        simp only [pre] at this
        omega
      subst e1
      have e2 := congrArg Prod.snd q4
      simp only at e2
      have hne : k ≠ s := by rintro rfl; omega
      refine ha k s hk (by omega) hne hl (by omega) ?_
      rw [← e2]
      simp only [pre] at hnext
      omega
    · exact h2.symm
  refine ⟨h.root, h.inj, ?_, ?_, ?_, ?_, ?_, ?_⟩
  · intro st' b' t n v h1 h2 h3 h4
    rw [hw _ _ h2] at h3
    split at h3
    · omega
    · exact h.down st' b' t n v h1 h2 h3 h4
  · intro st' b' n v h1 h2 h3
    rw [hw _ _ h2] at h3 ⊢
    split at h3
    · rename_i hc
      rw [if_pos hc]
      obtain ⟨rfl, rfl⟩ := hc
      rw [hs, Option.some.injEq] at h1
      refine ⟨k, by omega, rfl, ?_, ?_⟩
      · have := congrArg Prod.fst h1
        simp only [pre] at this
        omega
      · have := congrArg Prod.snd h1
        simp only at this
        omega
    · rename_i hc
      rw [if_neg hc]
      obtain ⟨s, q⟩ := h.leaf st' b' n v h1 h2 h3
      exact ⟨s, by omega, q.2⟩
  · intro s j h1 h2
    rcases Nat.lt_or_ge s k with h3 | h3
    · exact h.have_ s j h3 h2
    · obtain rfl : s = k := by omega
      exact hall j h2
  · intro s st' h1 h2 h3
    rcases Nat.lt_or_ge s k with h4 | h4
    · have h5 := h.ends s st' h4 h2 h3
      rw [hw _ _ (Nat.mod_lt _ (by omega)), if_neg]
      · exact h5
      · rintro ⟨rfl, e⟩
        rw [e, hz] at h5
        omega
    · obtain rfl : s = k := by omega
      have := h.inj _ _ _ h3 hs
      subst this
      rw [hw _ _ hb2, if_pos ⟨rfl, rfl⟩]
  · intro st' p h1 h2
    obtain ⟨s, j, q⟩ := h.of_ st' p h1 h2
    exact ⟨s, j, by omega, q.2⟩
  · intro t p h1 h2
    obtain ⟨st', b', n, v, h3, h4, h5⟩ := h.up t p h1 h2
    refine ⟨st', b', n, v, h3, h4, ?_⟩
    rw [hw _ _ h4, if_neg]
    · exact h5
    · rintro ⟨rfl, rfl⟩
      omega
end Go.Proofs.YtpmoknnhgginjaaDoor.Hu.Trie

/- The least cost of lengths, level by level from the top: what the recursion finds is the least of all lengths that fit. No program in it. -/
namespace Go.Proofs.YtpmoknnhgginjaaDoor.Hu.Huff

/-- The smaller of two, where there are any. -/
def omin : Option Nat → Option Nat → Option Nat
  | none, b => b
  | a, none => a
  | some a, some b => some (min a b)
theorem omin_le_left {a : Option Nat} {x : Nat} (b : Option Nat) (h : a = some x) : ∃ v, omin a b = some v ∧ v ≤ x := by
  subst h
  cases b with
  | none => exact ⟨x, rfl, Nat.le_refl _⟩
  | some b => exact ⟨min x b, rfl, Nat.min_le_left _ _⟩
theorem omin_le_right {b : Option Nat} {x : Nat} (a : Option Nat) (h : b = some x) : ∃ v, omin a b = some v ∧ v ≤ x := by
  subst h
  cases a with
  | none => exact ⟨x, rfl, Nat.le_refl _⟩
  | some a => exact ⟨min a x, rfl, Nat.min_le_right _ _⟩
theorem omin_is {a b : Option Nat} {v : Nat} (h : omin a b = some v) : a = some v ∨ b = some v := by
  cases a with
  | none => exact Or.inr (by cases b <;> exact h)
  | some a => cases b with
    | none => exact Or.inl h
    | some b =>
      simp only [omin, Option.some.injEq] at h
      rcases Nat.le_total a b with e | e
      · left; rw [← h, Nat.min_eq_left e]
      · right; rw [← h, Nat.min_eq_right e]

/-- The least that symbols cost still, with p open places and r levels below. -/
def least : Nat → List Nat → Nat → Option Nat
  | _, [], _ => some 0
  | _, _ :: _, 0 => none
  | 0, _ :: cs, p + 1 => least 0 cs p
  | r + 1, a :: cs, p + 1 => omin (least (r + 1) cs p) ((least r (a :: cs) (2 * (p + 1))).map (· + (a :: cs).sum))
termination_by r cs _ => (r, cs.length)

theorem least_nil (r p : Nat) : least r [] p = some 0 := by cases r <;> simp [least]
theorem least_none (r a : Nat) (cs : List Nat) : least r (a :: cs) 0 = none := by cases r <;> simp [least]
theorem least_flat (a : Nat) (cs : List Nat) (p : Nat) : least 0 (a :: cs) (p + 1) = least 0 cs p := by simp [least]
theorem least_deep (r a : Nat) (cs : List Nat) (p : Nat) : least (r + 1) (a :: cs) (p + 1) = omin (least (r + 1) cs p) ((least r (a :: cs) (2 * (p + 1))).map (· + (a :: cs).sum)) := by rw [least]

/-- What lengths cost. -/
def dot : List Nat → List Nat → Nat
  | c :: cs, e :: es => c * e + dot cs es
  | _, _ => 0
/-- The room that lengths take, with r levels. -/
def kraft (r : Nat) : List Nat → Nat
  | [] => 0
  | e :: es => 2 ^ (r - e) + kraft r es
/-- Lengths for symbols, of at most r, within p places. -/
structure Fits (r : Nat) (cs es : List Nat) (p : Nat) : Prop where
  len : es.length = cs.length
  le : ∀ e ∈ es, e ≤ r
  room : kraft r es ≤ p * 2 ^ r

theorem dot_nil (es : List Nat) : dot [] es = 0 := by cases es <;> rfl
theorem dot_cons (c e : Nat) (cs es : List Nat) : dot (c :: cs) (e :: es) = c * e + dot cs es := rfl
theorem dot_succ (cs es : List Nat) (h : es.length = cs.length) : dot cs (es.map (· + 1)) = dot cs es + cs.sum := by
  induction cs generalizing es with
  | nil => simp [dot_nil]
  | cons c cs ih => cases es with
    | nil => simp at h
    | cons e es =>
      rw [List.map_cons, dot_cons, dot_cons, ih es (by simpa using h), List.sum_cons, Nat.mul_add, Nat.mul_one]
      omega
theorem kraft_succ (r : Nat) (es : List Nat) : kraft (r + 1) (es.map (· + 1)) = kraft r es := by
  induction es with
  | nil => rfl
  | cons e es ih =>
    rw [List.map_cons, kraft, kraft, ih]
    congr 2
    omega

/-- What is found are lengths that fit. -/
theorem least_fits (r : Nat) (cs : List Nat) (p v : Nat) (h : least r cs p = some v) : ∃ es, Fits r cs es p ∧ dot cs es = v := by
  induction r generalizing cs p v with
  | zero =>
    induction cs generalizing p v with
    | nil =>
      rw [least_nil] at h
      exact ⟨[], ⟨rfl, by simp, by simp [kraft]⟩, by rw [dot_nil]; exact Option.some.inj h⟩
    | cons a cs ih =>
      cases p with
      | zero => rw [least_none] at h; cases h
      | succ p =>
        rw [least_flat] at h
        obtain ⟨es, hf, hd⟩ := ih p v h
        refine ⟨0 :: es, ⟨by simp [hf.len], ?_, ?_⟩, by rw [dot_cons, hd]; omega⟩
        · intro e he
          rcases List.mem_cons.1 he with rfl | he
          · exact Nat.le_refl _
          · exact hf.le e he
        · have := hf.room
          rw [kraft]
          simp only [Nat.pow_zero, Nat.mul_one, Nat.sub_self] at this ⊢
          omega
  | succ r ihr =>
    induction cs generalizing p v with
    | nil =>
      rw [least_nil] at h
      exact ⟨[], ⟨rfl, by simp, by simp [kraft]⟩, by rw [dot_nil]; exact Option.some.inj h⟩
    | cons a cs ih =>
      cases p with
      | zero => rw [least_none] at h; cases h
      | succ p =>
        rw [least_deep] at h
        rcases omin_is h with h1 | h1
        · obtain ⟨es, hf, hd⟩ := ih p v h1
          refine ⟨0 :: es, ⟨by simp [hf.len], ?_, ?_⟩, by rw [dot_cons, hd]; omega⟩
          · intro e he
            rcases List.mem_cons.1 he with rfl | he
            · omega
            · exact hf.le e he
          · have := hf.room
            rw [kraft, Nat.sub_zero, Nat.add_mul]
            omega
        · cases h2 : least r (a :: cs) (2 * (p + 1)) with
          | none => rw [h2] at h1; cases h1
          | some u =>
            rw [h2] at h1
            simp only [Option.map_some, Option.some.injEq] at h1
            obtain ⟨es, hf, hd⟩ := ihr (a :: cs) (2 * (p + 1)) u h2
            refine ⟨es.map (· + 1), ⟨by simp [hf.len], ?_, ?_⟩, by rw [dot_succ _ _ hf.len, hd, h1]⟩
            · intro e he
              obtain ⟨x, hx, rfl⟩ := List.mem_map.1 he
              have := hf.le x hx
              omega
            · have := hf.room
              rw [kraft_succ, Nat.pow_succ]
              rw [show (p + 1) * (2 ^ r * 2) = 2 * (p + 1) * 2 ^ r by rw [Nat.mul_comm (2 ^ r) 2, ← Nat.mul_assoc, Nat.mul_comm (p + 1) 2]]
              exact this

/-- Falling counts. -/
def Falling : List Nat → Prop
  | [] => True
  | c :: cs => (∀ x ∈ cs, x ≤ c) ∧ Falling cs

theorem dot_set (cs es : List Nat) (k x : Nat) (h : es.length = cs.length) (hk : k < es.length) (h0 : es[k] = 0) : dot cs (es.set k x) = dot cs es + cs[k]'(by omega) * x := by
  induction cs generalizing es k with
  | nil => exact absurd hk (by rw [h]; simp)
  | cons c cs ih => cases es with
    | nil => simp at h
    | cons e es =>
      cases k with
      | zero =>
        simp only [List.getElem_cons_zero] at h0
        subst h0
        simp only [List.set_cons_zero, dot_cons, List.getElem_cons_zero]
        omega
      | succ k =>
        simp only [List.set_cons_succ, dot_cons, List.getElem_cons_succ] at h0 ⊢
        rw [ih es k (by simpa using h) (by simpa using hk) h0]
        omega
theorem kraft_set (r : Nat) (es : List Nat) (k x : Nat) (hk : k < es.length) (h0 : es[k] = 0) : kraft r (es.set k x) + 2 ^ r = kraft r es + 2 ^ (r - x) := by
  induction es generalizing k with
  | nil => simp at hk
  | cons e es ih =>
    cases k with
    | zero =>
      simp only [List.getElem_cons_zero] at h0
      subst h0
      simp only [List.set_cons_zero, kraft, Nat.sub_zero]
      omega
    | succ k =>
      simp only [List.set_cons_succ, kraft, List.getElem_cons_succ] at h0 ⊢
      have := ih k (by simpa using hk) h0
      omega

/-- No lengths that fit cost less. -/
theorem least_le (r : Nat) (cs es : List Nat) (p : Nat) (hc : Falling cs) (h : Fits r cs es p) : ∃ v, least r cs p = some v ∧ v ≤ dot cs es := by
  induction r generalizing cs es p with
  | zero =>
    induction cs generalizing es p with
    | nil => exact ⟨0, least_nil _ _, Nat.zero_le _⟩
    | cons a cs ih => cases es with
      | nil => have := h.len; simp at this
      | cons e es =>
        have he : e = 0 := by have := h.le e (List.mem_cons_self ..); omega
        subst he
        have hr := h.room
        rw [kraft] at hr
        simp only [Nat.pow_zero, Nat.mul_one, Nat.sub_self] at hr
        cases p with
        | zero => omega
        | succ p =>
          rw [least_flat, dot_cons]
          obtain ⟨v, h1, h2⟩ := ih es p hc.2 ⟨by have := h.len; simpa using this, fun x hx => h.le x (List.mem_cons_of_mem _ hx), by simp only [Nat.pow_zero, Nat.mul_one]; omega⟩
          exact ⟨v, h1, by omega⟩
  | succ r ihr =>
    induction cs generalizing es p with
    | nil => exact ⟨0, least_nil _ _, Nat.zero_le _⟩
    | cons a cs ih => cases es with
      | nil => have := h.len; simp at this
      | cons e es =>
        have hlen : es.length = cs.length := by have := h.len; simpa using this
        have hp : 0 < p := by
          have hr := h.room
          rw [kraft] at hr
          have := Nat.two_pow_pos (r + 1 - e)
          rcases Nat.eq_zero_or_pos p with rfl | h
          · omega
          · exact h
        obtain ⟨p, rfl⟩ : ∃ q, p = q + 1 := ⟨p - 1, by omega⟩
        rw [least_deep]
        -- a 0 among them is brought to the front
        by_cases hz : e = 0 ∨ ∃ k, ∃ hk : k < es.length, es[k] = 0
        · have key : ∃ es', Fits (r + 1) cs es' p ∧ dot cs es' ≤ dot (a :: cs) (e :: es) := by
            rcases hz with rfl | ⟨k, hk, h0⟩
            · refine ⟨es, ⟨hlen, fun x hx => h.le x (List.mem_cons_of_mem _ hx), ?_⟩, by rw [dot_cons]; omega⟩
              have hr := h.room
              rw [kraft, Nat.sub_zero, Nat.add_mul] at hr
              omega
            · refine ⟨es.set k e, ⟨by simp [hlen], ?_, ?_⟩, ?_⟩
              · intro x hx
                rcases List.mem_or_eq_of_mem_set hx with hx | rfl
                · exact h.le x (List.mem_cons_of_mem _ hx)
                · exact h.le _ (List.mem_cons_self ..)
              · have hr := h.room
                have hs := kraft_set (r + 1) es k e hk h0
                rw [kraft, Nat.add_mul] at hr
                omega
              · rw [dot_set cs es k e hlen hk h0, dot_cons]
                have hle : cs[k]'(by omega) ≤ a := hc.1 _ (List.getElem_mem _)
                have := Nat.mul_le_mul_right e hle
                omega
          obtain ⟨es', hf, hd⟩ := key
          obtain ⟨v, h1, h2⟩ := ih es' p hc.2 hf
          obtain ⟨u, h3, h4⟩ := omin_le_left ((least r (a :: cs) (2 * (p + 1))).map (· + (a :: cs).sum)) h1
          exact ⟨u, h3, by omega⟩
        · have hpos : ∀ x ∈ e :: es, 1 ≤ x := by
            intro x hx
            rcases List.mem_cons.1 hx with rfl | hx
            · have : x ≠ 0 := fun e0 => hz (Or.inl e0)
              omega
            · obtain ⟨k, hk, rfl⟩ := List.mem_iff_getElem.1 hx
              have : es[k] ≠ 0 := fun e0 => hz (Or.inr ⟨k, hk, e0⟩)
              omega
          obtain ⟨fs, hfs⟩ : ∃ fs : List Nat, e :: es = fs.map (· + 1) := by
            refine ⟨(e :: es).map (· - 1), ?_⟩
            rw [List.map_map]
            have : ∀ l : List Nat, (∀ x ∈ l, 1 ≤ x) → l = l.map ((· + 1) ∘ (· - 1)) := by
              intro l hl
              induction l with
              | nil => rfl
              | cons y l ihl =>
                rw [List.map_cons, ← ihl (fun x hx => hl x (List.mem_cons_of_mem _ hx))]
                have := hl y (List.mem_cons_self ..)
                simp only [Function.comp]
                congr 1
                omega
            exact this _ hpos
          rw [hfs] at h ⊢
          have hl2 : fs.length = (a :: cs).length := by have := h.len; simpa using this
          obtain ⟨v, h1, h2⟩ := ihr (a :: cs) fs (2 * (p + 1)) hc ⟨hl2, fun x hx => by have := h.le (x + 1) (List.mem_map.2 ⟨x, hx, rfl⟩); omega, by
            have hr := h.room
            rw [kraft_succ, Nat.pow_succ] at hr
            rw [show 2 * (p + 1) * 2 ^ r = (p + 1) * (2 ^ r * 2) by rw [Nat.mul_comm (2 ^ r) 2, ← Nat.mul_assoc, Nat.mul_comm (p + 1) 2]]
            exact hr⟩
          obtain ⟨u, h3, h4⟩ := omin_le_right (least (r + 1) cs p) (show (least r (a :: cs) (2 * (p + 1))).map (· + (a :: cs).sum) = some (v + (a :: cs).sum) by rw [h1]; rfl)
          refine ⟨u, h3, ?_⟩
          rw [dot_succ _ _ hl2]
          omega

/-- Where there is a place for each, none costs more. -/
theorem least_all (r : Nat) (cs : List Nat) (p : Nat) (h : cs.length ≤ p) : least r cs p = some 0 := by
  induction cs generalizing p with
  | nil => exact least_nil _ _
  | cons a cs ih =>
    simp only [List.length_cons] at h
    obtain ⟨p, rfl⟩ : ∃ q, p = q + 1 := ⟨p - 1, by omega⟩
    have h1 := ih p (by omega)
    cases r with
    | zero => rw [least_flat]; exact h1
    | succ r =>
      rw [least_deep]
      obtain ⟨v, h2, h3⟩ := omin_le_left ((least r (a :: cs) (2 * (p + 1))).map (· + (a :: cs).sum)) h1
      rw [h2]
      congr 1
      omega
/-- More places than symbols are as many as symbols. -/
theorem least_cap (r : Nat) (cs : List Nat) (p n : Nat) (h : cs.length ≤ n) : least r cs (min p n) = least r cs p := by
  rcases Nat.le_total p n with e | e
  · rw [Nat.min_eq_left e]
  · rw [Nat.min_eq_right e, least_all r cs n h, least_all r cs p (by omega)]
end Go.Proofs.YtpmoknnhgginjaaDoor.Hu.Huff
/- Packages of coins, merged row by row: no lengths cost less than the first of the last row. No program in it. -/
namespace Go.Proofs.YtpmoknnhgginjaaDoor.Hu.Huff

/-- Two by two. -/
def pairs : List Nat → List Nat
  | a :: b :: l => (a + b) :: pairs l
  | _ => []
theorem pairs_length (l : List Nat) : (pairs l).length = l.length / 2 := by
  match l with
  | [] => simp [pairs]
  | [_] => simp [pairs]
  | a :: b :: l =>
    have ih := pairs_length l
    simp only [pairs, List.length_cons, ih]
    omega
theorem pairs_take (l : List Nat) (k : Nat) : ((pairs l).take k).sum ≤ (l.take (2 * k)).sum := by
  match l, k with
  | _, 0 => simp
  | [], k + 1 => simp [pairs]
  | [_], k + 1 => simp [pairs]
  | a :: b :: l, k + 1 =>
    have ih := pairs_take l k
    rw [show 2 * (k + 1) = 2 * k + 1 + 1 by omega]
    simp only [pairs, List.take_succ_cons, List.sum_cons]
    omega

/-- The first of a sorted list are as little as any others of it. -/
theorem sorted_first (L M R : List Nat) (hs : L.Pairwise (· ≤ ·)) (hp : L.Perm (M ++ R)) : (L.take M.length).sum ≤ M.sum := by
  induction L generalizing M R with
  | nil => simp
  | cons x L ih =>
    cases M with
    | nil => simp
    | cons y M =>
      obtain ⟨hx, hs'⟩ := List.pairwise_cons.1 hs
      by_cases hm : x ∈ (y :: M)
      · have h1 : (y :: M).Perm (x :: (y :: M).erase x) := List.perm_cons_erase hm
        have h2 : L.Perm ((y :: M).erase x ++ R) := by
          have := hp.trans (h1.append_right R)
          rw [List.cons_append] at this
          exact (List.perm_cons x).1 this
        have h3 := ih _ _ hs' h2
        have hl : (y :: M).length = ((y :: M).erase x).length + 1 := by have := h1.length_eq; simpa using this
        have hsum : (y :: M).sum = x + ((y :: M).erase x).sum := by have := h1.sum_nat; simpa using this
        rw [hl, hsum, List.take_succ_cons, List.sum_cons]
        omega
      · have hr : x ∈ R := by
          have : x ∈ (y :: M) ++ R := hp.subset (List.mem_cons_self ..)
          rcases List.mem_append.1 this with h | h
          · exact absurd h hm
          · exact h
        have hy : x ≤ y := by
          have : y ∈ x :: L := hp.symm.subset (by simp)
          rcases List.mem_cons.1 this with h | h
          · omega
          · exact hx y h
        have h1 : R.Perm (x :: R.erase x) := List.perm_cons_erase hr
        have h2 : L.Perm (M ++ (y :: R.erase x)) := by
          have e1 : (x :: L).Perm (x :: (M ++ (y :: R.erase x))) := by
            refine hp.trans ?_
            refine ((List.Perm.refl (y :: M)).append h1).trans ?_
            have e2 : ((y :: M) ++ (x :: R.erase x)).Perm (x :: ((y :: M) ++ R.erase x)) := List.perm_middle
            refine e2.trans ((List.perm_cons x).2 ?_)
            have e3 : (M ++ (y :: R.erase x)).Perm (y :: (M ++ R.erase x)) := List.perm_middle
            exact e3.symm
          exact (List.perm_cons x).1 e1
        have h3 := ih _ _ hs' h2
        rw [List.length_cons, List.take_succ_cons, List.sum_cons, List.sum_cons]
        omega
theorem take_sum_le (l : List Nat) (a b : Nat) (h : a ≤ b) : (l.take a).sum ≤ (l.take b).sum := by
  induction l generalizing a b with
  | nil => simp
  | cons x l ih => cases a with
    | zero => simp
    | succ a =>
      obtain ⟨b, rfl⟩ : ∃ c, b = c + 1 := ⟨b - 1, by omega⟩
      have := ih a b (by omega)
      simp only [List.take_succ_cons, List.sum_cons]
      omega

/-- The coins that lengths lay on the uppermost level, and the others. -/
def sel : List Nat → List Nat → List Nat
  | w :: ws, e :: es => if e = 0 then sel ws es else w :: sel ws es
  | _, _ => []
def rest : List Nat → List Nat → List Nat
  | w :: ws, e :: es => if e = 0 then w :: rest ws es else rest ws es
  | ws, [] => ws
  | [], _ => []
theorem sel_perm (ws es : List Nat) (h : es.length = ws.length) : ws.Perm (sel ws es ++ rest ws es) := by
  induction ws generalizing es with
  | nil => cases es with
    | nil => simp [sel, rest]
    | cons e es => simp at h
  | cons w ws ih => cases es with
    | nil => simp at h
    | cons e es =>
      have ih := ih es (by simpa using h)
      by_cases he : e = 0
      · simp only [sel, rest, he, if_true]
        exact ((List.perm_cons w).2 ih).trans List.perm_middle.symm
      · simp only [sel, rest, he, if_false]
        exact (List.perm_cons w).2 ih
theorem dot_sel (ws es : List Nat) (h : es.length = ws.length) : dot ws es = (sel ws es).sum + dot ws (es.map (· - 1)) := by
  induction ws generalizing es with
  | nil => simp [dot_nil, sel]
  | cons w ws ih => cases es with
    | nil => simp at h
    | cons e es =>
      have ih := ih es (by simpa using h)
      rw [List.map_cons, dot_cons, dot_cons, ih]
      by_cases he : e = 0
      · subst he
        simp [sel]
      · obtain ⟨f, rfl⟩ : ∃ f, e = f + 1 := ⟨e - 1, by omega⟩
        simp only [sel, he, if_false, List.sum_cons, Nat.add_sub_cancel, Nat.mul_add, Nat.mul_one]
        omega

/-- The width of the coins that lengths take, with j levels. -/
def width (j : Nat) : List Nat → Nat
  | [] => 0
  | e :: es => (2 ^ j - 2 ^ (j - e)) + width j es
theorem width_succ (ws es : List Nat) (j : Nat) (h : es.length = ws.length) (hj : ∀ e ∈ es, e ≤ j + 1) : width (j + 1) es = (sel ws es).length * 2 ^ j + width j (es.map (· - 1)) := by
  induction ws generalizing es with
  | nil =>
    have : es = [] := List.eq_nil_of_length_eq_zero (by simpa using h)
    subst this
    simp [sel, width]
  | cons w ws ih => cases es with
    | nil => simp at h
    | cons e es =>
      have ih := ih es (by simpa using h) (fun x hx => hj x (List.mem_cons_of_mem _ hx))
      rw [List.map_cons, width, width, ih]
      by_cases he : e = 0
      · subst he
        simp [sel]
      · have hle := hj e (List.mem_cons_self ..)
        obtain ⟨f, rfl⟩ : ∃ f, e = f + 1 := ⟨e - 1, by omega⟩
        have hp : 2 ^ (j - f) ≤ 2 ^ j := Nat.pow_le_pow_right (by omega) (by omega)
        simp only [sel, he, if_false, List.length_cons, Nat.add_sub_cancel, Nat.add_mul, Nat.one_mul]
        rw [show j + 1 - (f + 1) = j - f by omega, Nat.pow_succ]
        omega

/-- The rows: each is sorted, of all coins and of the row ahead two by two. -/
def Rows (ws : List Nat) (L : Nat → List Nat) : Prop := L 0 = [] ∧ ∀ j, (L (j + 1)).Pairwise (· ≤ ·) ∧ (L (j + 1)).Perm (ws ++ pairs (L j))

theorem rows_le (ws : List Nat) (L : Nat → List Nat) (hL : Rows ws L) (j k : Nat) (es : List Nat) (h : es.length = ws.length) (hj : ∀ e ∈ es, e ≤ j) (hw : k * 2 ^ j ≤ 2 * width j es) :
    k ≤ (L j).length ∧ ((L j).take k).sum ≤ dot ws es := by
  induction j generalizing k es with
  | zero =>
    have hz : width 0 es = 0 := by
      have : ∀ l : List Nat, (∀ e ∈ l, e ≤ 0) → width 0 l = 0 := by
        intro l hl
        induction l with
        | nil => rfl
        | cons e l ih =>
          have := hl e (List.mem_cons_self ..)
          rw [width, ih (fun x hx => hl x (List.mem_cons_of_mem _ hx))]
          simp
      exact this es hj
    rw [hz] at hw
    simp only [Nat.pow_zero, Nat.mul_one, Nat.mul_zero, Nat.le_zero] at hw
    subst hw
    simp
  | succ j ih =>
    obtain ⟨hs, hp⟩ := hL.2 j
    have hsel := sel_perm ws es h
    rw [dot_sel ws es h]
    rw [width_succ ws es j h hj, Nat.pow_succ] at hw
    have hlen : (L (j + 1)).length = ws.length + (pairs (L j)).length := by have := hp.length_eq; simpa using this
    have hsl : (sel ws es).length ≤ ws.length := by have := hsel.length_eq; simp only [List.length_append] at this; omega
    by_cases hk : k ≤ (sel ws es).length
    · refine ⟨by omega, ?_⟩
      have h1 := sorted_first (L (j + 1)) (sel ws es) (rest ws es ++ pairs (L j)) hs (by
        rw [← List.append_assoc]
        exact hp.trans (hsel.append_right _))
      have h2 := take_sum_le (L (j + 1)) k (sel ws es).length hk
      omega
    · have hw2 : 2 * (k - (sel ws es).length) * 2 ^ j ≤ 2 * width j (es.map (· - 1)) := by
        obtain ⟨d, hd⟩ : ∃ d, k = (sel ws es).length + d := ⟨k - (sel ws es).length, by omega⟩
        rw [hd, Nat.add_sub_cancel_left]
        rw [hd, Nat.add_mul] at hw
        have e1 : (sel ws es).length * (2 ^ j * 2) = 2 * ((sel ws es).length * 2 ^ j) := by rw [← Nat.mul_assoc, Nat.mul_comm]
        have e2 : d * (2 ^ j * 2) = 2 * (d * 2 ^ j) := by rw [← Nat.mul_assoc, Nat.mul_comm]
        rw [e1, e2] at hw
        rw [Nat.mul_assoc]
        omega
      obtain ⟨h1, h2⟩ := ih (2 * (k - (sel ws es).length)) (es.map (· - 1)) (by simpa using h) (by
        intro x hx
        obtain ⟨y, hy, rfl⟩ := List.mem_map.1 hx
        have := hj y hy
        omega) hw2
      have hpl : k - (sel ws es).length ≤ (pairs (L j)).length := by rw [pairs_length]; omega
      refine ⟨by omega, ?_⟩
      have h3 := pairs_take (L j) (k - (sel ws es).length)
      have h4 := sorted_first (L (j + 1)) (sel ws es ++ (pairs (L j)).take (k - (sel ws es).length)) (rest ws es ++ (pairs (L j)).drop (k - (sel ws es).length)) hs (by
        refine hp.trans ?_
        refine (hsel.append_right _).trans ?_
        have e1 : pairs (L j) = (pairs (L j)).take (k - (sel ws es).length) ++ (pairs (L j)).drop (k - (sel ws es).length) := (List.take_append_drop _ _).symm
        conv => lhs; rw [e1]
        rw [List.append_assoc, List.append_assoc]
        refine (List.Perm.refl _).append ?_
        rw [← List.append_assoc, ← List.append_assoc]
        exact List.perm_append_comm.append_right _)
      rw [List.length_append, List.length_take, Nat.min_eq_left hpl, List.sum_append] at h4
      rw [show (sel ws es).length + (k - (sel ws es).length) = k by omega] at h4
      omega

/-- Lengths that aren't too many take as much width as the first of the last row. -/
theorem width_kraft (j : Nat) (es : List Nat) (hj : ∀ e ∈ es, e ≤ j) : width j es + kraft j es = es.length * 2 ^ j := by
  induction es with
  | nil => simp [width, kraft]
  | cons e es ih =>
    have hp : 2 ^ (j - e) ≤ 2 ^ j := Nat.pow_le_pow_right (by omega) (by omega)
    have := ih (fun x hx => hj x (List.mem_cons_of_mem _ hx))
    rw [width, kraft, List.length_cons, Nat.add_mul, Nat.one_mul]
    omega
/-- No lengths that aren't too many cost less than the first 2 n - 2 of the last row. -/
theorem package_least (ws : List Nat) (L : Nat → List Nat) (hL : Rows ws L) (j : Nat) (es : List Nat) (h : es.length = ws.length) (hj : ∀ e ∈ es, e ≤ j) (hk : kraft j es ≤ 2 ^ j) :
    2 * ws.length - 2 ≤ (L j).length ∧ ((L j).take (2 * ws.length - 2)).sum ≤ dot ws es := by
  refine rows_le ws L hL j _ es h hj ?_
  have hw := width_kraft j es hj
  rw [h] at hw
  rcases Nat.eq_zero_or_pos ws.length with h0 | h0
  · rw [h0]; simp
  · obtain ⟨n, hn⟩ : ∃ n, ws.length = n + 1 := ⟨ws.length - 1, by omega⟩
    rw [hn, Nat.add_mul, Nat.one_mul] at hw
    rw [hn, show 2 * (n + 1) - 2 = 2 * n by omega, Nat.mul_assoc]
    omega
end Go.Proofs.YtpmoknnhgginjaaDoor.Hu.Huff
/- Packages of coins, merged row by row: how often each symbol stands in the first of the last row are lengths that aren't too many, and cost just those. No program in it. -/
namespace Go.Proofs.YtpmoknnhgginjaaDoor.Hu.Huff

/-- A coin or a package: the symbols that it is of. -/
abbrev It := List Nat
def joinTwo : List It → List It
  | a :: b :: l => (a ++ b) :: joinTwo l
  | _ => []
def coinsOf (n : Nat) : List It := (List.range n).map (fun i => [i])
def flat (M : List It) : List Nat := M.flatten
/-- How often each of n symbols stands in a list. -/
def countsOf (n : Nat) (f : List Nat) : List Nat := (List.range n).map (fun i => f.count i)
def weightOf (ws : List Nat) (it : It) : Nat := (it.map (fun s => ws.getD s 0)).sum

theorem countsOf_length (n : Nat) (f : List Nat) : (countsOf n f).length = n := by simp [countsOf]
theorem countsOf_get (n : Nat) (f : List Nat) (i : Nat) (h : i < n) : (countsOf n f)[i]'(by rw [countsOf_length]; exact h) = f.count i := by simp [countsOf]

theorem dot_inc (ws l : List Nat) (s : Nat) (h : l.length = ws.length) (hs : s < l.length) : dot ws (l.set s (l[s] + 1)) = dot ws l + ws.getD s 0 := by
  induction ws generalizing l s with
  | nil => exact absurd hs (by rw [h]; simp)
  | cons w ws ih => cases l with
    | nil => simp at h
    | cons e l => cases s with
      | zero => simp only [List.set_cons_zero, List.getElem_cons_zero, dot_cons, Nat.mul_add, Nat.mul_one, List.getD_cons_zero]; omega
      | succ s =>
        simp only [List.set_cons_succ, List.getElem_cons_succ, dot_cons, List.getD_cons_succ]
        rw [ih l s (by simpa using h) (by simpa using hs)]
        omega
theorem countsOf_cons (n s : Nat) (f : List Nat) (hs : s < n) : countsOf n (s :: f) = (countsOf n f).set s ((countsOf n f)[s]'(by rw [countsOf_length]; exact hs) + 1) := by
  apply List.ext_getElem
  · simp [countsOf]
  · intro i h1 h2
    rw [countsOf_length] at h1
    rw [countsOf_get _ _ _ h1, List.getElem_set]
    by_cases e : s = i
    · subst e
      rw [if_pos rfl, countsOf_get _ _ _ h1, List.count_cons_self]
    · rw [if_neg e, countsOf_get _ _ _ h1, List.count_cons_of_ne e]
theorem dot_zero (ws : List Nat) (n : Nat) : dot ws (List.replicate n 0) = 0 := by
  induction ws generalizing n with
  | nil => exact dot_nil _
  | cons w ws ih => cases n with
    | zero => rfl
    | succ n => rw [List.replicate_succ, dot_cons, ih]; omega
/-- What stands in a list costs what its symbols cost, so often as they stand there. -/
theorem dot_counts (ws : List Nat) (f : List Nat) (h : ∀ s ∈ f, s < ws.length) : dot ws (countsOf ws.length f) = (f.map (fun s => ws.getD s 0)).sum := by
  induction f with
  | nil =>
    have e : countsOf ws.length [] = List.replicate ws.length 0 := by
      apply List.ext_getElem
      · simp [countsOf]
      · intro i h1 h2; simp [countsOf]
    rw [e, dot_zero]; rfl
  | cons s f ih =>
    have hs := h s (List.mem_cons_self ..)
    rw [countsOf_cons _ _ _ hs, dot_inc _ _ _ (by rw [countsOf_length]) (by rw [countsOf_length]; exact hs), ih (fun x hx => h x (List.mem_cons_of_mem _ hx)), List.map_cons, List.sum_cons]
    omega
theorem weight_flat (ws : List Nat) (M : List It) : (M.map (weightOf ws)).sum = ((flat M).map (fun s => ws.getD s 0)).sum := by
  induction M with
  | nil => rfl
  | cons a M ih =>
    have e : flat (a :: M) = a ++ flat M := rfl
    rw [e, List.map_append, List.sum_append, List.map_cons, List.sum_cons, ih]
    rfl

theorem flat_append (M N : List It) : flat (M ++ N) = flat M ++ flat N := List.flatten_append
theorem flat_perm {M N : List It} (h : M.Perm N) : (flat M).Perm (flat N) := h.flatten
theorem count_perm {f g : List Nat} (h : f.Perm g) (i : Nat) : f.count i = g.count i := h.count_eq i

/-- What is within two lists together is of both. -/
theorem split_perm (M R C P : List It) (h : (M ++ R).Perm (C ++ P)) : ∃ A A' B B', M.Perm (A ++ B) ∧ C.Perm (A ++ A') ∧ P.Perm (B ++ B') := by
  induction M generalizing C P with
  | nil => exact ⟨[], C, [], P, List.Perm.refl _, List.Perm.refl _, List.Perm.refl _⟩
  | cons x M ih =>
    have hx : x ∈ C ++ P := h.subset (by simp)
    rcases List.mem_append.1 hx with hx | hx
    · have h1 : C.Perm (x :: C.erase x) := List.perm_cons_erase hx
      have h2 : (M ++ R).Perm (C.erase x ++ P) := (List.perm_cons x).1 (h.trans (h1.append_right P))
      obtain ⟨A, A', B, B', p1, p2, p3⟩ := ih _ _ h2
      exact ⟨x :: A, A', B, B', (List.perm_cons x).2 p1, h1.trans ((List.perm_cons x).2 p2), p3⟩
    · have h1 : P.Perm (x :: P.erase x) := List.perm_cons_erase hx
      have h2 : (M ++ R).Perm (C ++ P.erase x) := by
        have e : (x :: (M ++ R)).Perm (x :: (C ++ P.erase x)) := h.trans (((List.Perm.refl C).append h1).trans List.perm_middle)
        exact (List.perm_cons x).1 e
      obtain ⟨A, A', B, B', p1, p2, p3⟩ := ih _ _ h2
      exact ⟨A, A', x :: B, B', ((List.perm_cons x).2 p1).trans List.perm_middle.symm, p2, h1.trans ((List.perm_cons x).2 p3)⟩

/-- Some of the packages are of twice as many of the row ahead. -/
theorem unjoin (L B B' : List It) (h : (joinTwo L).Perm (B ++ B')) : ∃ N N', L.Perm (N ++ N') ∧ N.length = 2 * B.length ∧ (flat N).Perm (flat B) := by
  match L with
  | [] =>
    have e : B = [] := by have := h.length_eq; simp [joinTwo] at this; exact List.eq_nil_of_length_eq_zero (by omega)
    subst e
    exact ⟨[], [], List.Perm.refl _, rfl, List.Perm.refl _⟩
  | [a] =>
    have e : B = [] := by have := h.length_eq; simp [joinTwo] at this; exact List.eq_nil_of_length_eq_zero (by omega)
    subst e
    exact ⟨[], [a], List.Perm.refl _, rfl, List.Perm.refl _⟩
  | a :: b :: L =>
    have h' : ((a ++ b) :: joinTwo L).Perm (B ++ B') := h
    have hx : (a ++ b) ∈ B ++ B' := h'.subset (List.mem_cons_self ..)
    rcases List.mem_append.1 hx with hx | hx
    · have h1 : B.Perm ((a ++ b) :: B.erase (a ++ b)) := List.perm_cons_erase hx
      have h2 : (joinTwo L).Perm (B.erase (a ++ b) ++ B') := (List.perm_cons _).1 (h'.trans (h1.append_right B'))
      obtain ⟨N, N', p1, p2, p3⟩ := unjoin L _ _ h2
      refine ⟨a :: b :: N, N', (List.perm_cons a).2 ((List.perm_cons b).2 p1), ?_, ?_⟩
      · have := h1.length_eq
        simp only [List.length_cons] at this ⊢
        omega
      · have e1 : flat (a :: b :: N) = (a ++ b) ++ flat N := by simp [flat]
        have e2 : flat ((a ++ b) :: B.erase (a ++ b)) = (a ++ b) ++ flat (B.erase (a ++ b)) := rfl
        rw [e1]
        refine ((List.Perm.refl _).append p3).trans ?_
        rw [← e2]
        exact (flat_perm h1).symm
    · have h1 : B'.Perm ((a ++ b) :: B'.erase (a ++ b)) := List.perm_cons_erase hx
      have h2 : (joinTwo L).Perm (B ++ B'.erase (a ++ b)) := by
        have e : ((a ++ b) :: joinTwo L).Perm ((a ++ b) :: (B ++ B'.erase (a ++ b))) := h'.trans (((List.Perm.refl B).append h1).trans List.perm_middle)
        exact (List.perm_cons _).1 e
      obtain ⟨N, N', p1, p2, p3⟩ := unjoin L _ _ h2
      refine ⟨N, a :: b :: N', ?_, p2, p3⟩
      have e1 : (a :: b :: L).Perm (a :: b :: (N ++ N')) := (List.perm_cons a).2 ((List.perm_cons b).2 p1)
      have e2 : (N ++ (a :: b :: N')).Perm (a :: b :: (N ++ N')) := List.perm_middle.trans ((List.perm_cons a).2 List.perm_middle)
      exact e1.trans e2.symm

/-- The rows: each is of all coins and of the row ahead two by two. -/
def RowsOf (n : Nat) (R : Nat → List It) : Prop := R 0 = [] ∧ ∀ j, (R (j + 1)).Perm (coinsOf n ++ joinTwo (R j))

theorem flat_coins (n : Nat) : flat (coinsOf n) = List.range n := by
  unfold flat coinsOf
  induction n with
  | zero => rfl
  | succ n ih => rw [List.range_succ, List.map_append, List.flatten_append, ih]; rfl
theorem count_coins (n i : Nat) : (flat (coinsOf n)).count i ≤ 1 := by
  rw [flat_coins]
  exact List.nodup_iff_count.1 List.nodup_range i
theorem flat_joinTwo (L : List It) : ∃ t, flat L = flat (joinTwo L) ++ t := by
  match L with
  | [] => exact ⟨[], rfl⟩
  | [a] => exact ⟨a, by simp [flat, joinTwo]⟩
  | a :: b :: L =>
    obtain ⟨t, h⟩ := flat_joinTwo L
    refine ⟨t, ?_⟩
    have e1 : flat (a :: b :: L) = (a ++ b) ++ flat L := by simp [flat]
    have e2 : flat (joinTwo (a :: b :: L)) = (a ++ b) ++ flat (joinTwo L) := rfl
    rw [e1, e2, h]
    simp only [List.append_assoc]
theorem rows_count (n : Nat) (R : Nat → List It) (hR : RowsOf n R) (j i : Nat) : (flat (R j)).count i ≤ j := by
  induction j with
  | zero => rw [hR.1]; simp [flat]
  | succ j ih =>
    rw [count_perm (flat_perm (hR.2 j)), flat_append, List.count_append]
    have h1 := count_coins n i
    obtain ⟨t, h2⟩ := flat_joinTwo (R j)
    rw [h2, List.count_append] at ih
    omega
theorem rows_syms (n : Nat) (R : Nat → List It) (hR : RowsOf n R) (j : Nat) : ∀ s ∈ flat (R j), s < n := by
  induction j with
  | zero => rw [hR.1]; intro s hs; simp [flat] at hs
  | succ j ih =>
    intro s hs
    have hs2 := (flat_perm (hR.2 j)).subset hs
    rw [flat_append] at hs2
    rcases List.mem_append.1 hs2 with h | h
    · rw [flat_coins] at h; exact List.mem_range.1 h
    · obtain ⟨t, h2⟩ := flat_joinTwo (R j)
      exact ih s (by rw [h2]; exact List.mem_append_left _ h)

/-- One level more: what the coins on it take. -/
theorem width_more (j : Nat) (as1 es fs : List Nat) (h1 : as1.length = es.length) (h2 : fs.length = es.length) (ha : ∀ i (h : i < es.length), fs[i]'(by omega) = as1[i]'(by omega) + es[i]) (h01 : ∀ a ∈ as1, a ≤ 1) (hj : ∀ e ∈ es, e ≤ j) :
    as1.sum * 2 ^ j + width j es ≤ width (j + 1) fs := by
  induction es generalizing as1 fs with
  | nil =>
    obtain rfl : as1 = [] := List.eq_nil_of_length_eq_zero (by simpa using h1)
    simp [width]
  | cons e es ih => cases as1 with
    | nil => simp at h1
    | cons a as1 => cases fs with
      | nil => simp at h2
      | cons f fs =>
        have e0 := ha 0 (by simp)
        simp only [List.getElem_cons_zero] at e0
        have ih := ih as1 fs (by simpa using h1) (by simpa using h2) (fun i h => by have := ha (i + 1) (by simpa using h); simpa using this) (fun x hx => h01 x (List.mem_cons_of_mem _ hx)) (fun x hx => hj x (List.mem_cons_of_mem _ hx))
        have ha1 := h01 a (List.mem_cons_self ..)
        have hej := hj e (List.mem_cons_self ..)
        have hp : 2 ^ (j - e) ≤ 2 ^ j := Nat.pow_le_pow_right (by omega) (by omega)
        rw [width, width, List.sum_cons, Nat.add_mul]
        subst e0
        rcases (show a = 0 ∨ a = 1 by omega) with rfl | rfl
        · rw [Nat.zero_add, show j + 1 - e = (j - e) + 1 by omega, Nat.pow_succ, Nat.pow_succ]
          omega
        · rw [show j + 1 - (1 + e) = j - e by omega, Nat.pow_succ]
          omega
theorem countsOf_sum (n : Nat) (f : List Nat) (h : ∀ s ∈ f, s < n) : (countsOf n f).sum = f.length := by
  have key := dot_counts (List.replicate n 1) f (by simpa using h)
  have e1 : ∀ l : List Nat, dot (List.replicate l.length 1) l = l.sum := by
    intro l
    induction l with
    | nil => rfl
    | cons x l ih => rw [List.length_cons, List.replicate_succ, dot_cons, ih, List.sum_cons]; omega
  have e2 := e1 (countsOf n f)
  rw [countsOf_length] at e2
  rw [List.length_replicate, e2] at key
  rw [key]
  have e3 : ∀ g : List Nat, (∀ s ∈ g, s < n) → (g.map (fun s => (List.replicate n 1).getD s 0)).sum = g.length := by
    intro g hg
    induction g with
    | nil => rfl
    | cons s g ih =>
      rw [List.map_cons, List.sum_cons, ih (fun x hx => hg x (List.mem_cons_of_mem _ hx)), List.length_cons]
      have := hg s (List.mem_cons_self ..)
      rw [List.getD_eq_getElem?_getD, List.getElem?_replicate, if_pos this]
      simp only [Option.getD_some]
      omega
  exact e3 f h

/-- So many of a row take so much width. -/
theorem rows_width (n : Nat) (R : Nat → List It) (hR : RowsOf n R) (j : Nat) (M M' : List It) (h : (R j).Perm (M ++ M')) : M.length * 2 ^ j ≤ 2 * width j (countsOf n (flat M)) := by
  induction j generalizing M M' with
  | zero =>
    rw [hR.1] at h
    have : M = [] := by have := h.length_eq; simp at this; exact List.eq_nil_of_length_eq_zero (by omega)
    subst this
    simp
  | succ j ih =>
    obtain ⟨A, A', B, B', p1, p2, p3⟩ := split_perm M M' _ _ (h.symm.trans (hR.2 j))
    obtain ⟨N, N', q1, q2, q3⟩ := unjoin (R j) B B' p3
    have hN := ih N N' q1
    have hflat : (flat M).Perm (flat A ++ flat N) := by
      have h1 := flat_perm p1
      rw [flat_append] at h1
      exact h1.trans ((List.Perm.refl _).append q3.symm)
    have hA : (flat A).length = A.length := by
      have hc : ∀ x ∈ A, x.length = 1 := by
        intro x hx
        have : x ∈ coinsOf n := p2.symm.subset (List.mem_append_left _ hx)
        simp only [coinsOf, List.mem_map] at this
        obtain ⟨i, _, rfl⟩ := this
        rfl
      have : ∀ L : List It, (∀ x ∈ L, x.length = 1) → (flat L).length = L.length := by
        intro L hL
        induction L with
        | nil => rfl
        | cons x L ihl =>
          have e : flat (x :: L) = x ++ flat L := rfl
          rw [e, List.length_append, ihl (fun y hy => hL y (List.mem_cons_of_mem _ hy)), hL x (List.mem_cons_self ..), List.length_cons]
          omega
      exact this A hc
    have hAs : ∀ s ∈ flat A, s < n := by
      intro s hs
      have h1 : s ∈ flat (A ++ A') := by rw [flat_append]; exact List.mem_append_left _ hs
      have h2 := (flat_perm p2).symm.subset h1
      rw [flat_coins] at h2
      exact List.mem_range.1 h2
    have hw := width_more j (countsOf n (flat A)) (countsOf n (flat N)) (countsOf n (flat M)) (by rw [countsOf_length, countsOf_length]) (by rw [countsOf_length, countsOf_length])
      (by
        intro i hi
        rw [countsOf_length] at hi
        rw [countsOf_get _ _ _ hi, countsOf_get _ _ _ hi, countsOf_get _ _ _ hi, count_perm hflat, List.count_append])
      (by
        intro a ha
        simp only [countsOf, List.mem_map] at ha
        obtain ⟨i, _, rfl⟩ := ha
        have h1 := count_coins n i
        have h2 := count_perm (flat_perm p2) i
        rw [flat_append, List.count_append] at h2
        omega)
      (by
        intro e he
        simp only [countsOf, List.mem_map] at he
        obtain ⟨i, _, rfl⟩ := he
        have h1 := rows_count n R hR j i
        have h2 := count_perm (flat_perm q1) i
        rw [flat_append, List.count_append] at h2
        omega)
    rw [countsOf_sum n (flat A) hAs, hA] at hw
    have hl : M.length = A.length + B.length := by have := p1.length_eq; simpa using this
    rw [q2, Nat.mul_assoc] at hN
    rw [hl, Nat.pow_succ, ← Nat.mul_assoc, Nat.add_mul]
    omega

/-- How often each symbol stands in the first 2 n - 2 of the j-th row: lengths of at most j bits that aren't too many, none of them 0. -/
theorem package_fits (n : Nat) (hn : 2 ≤ n) (R : Nat → List It) (hR : RowsOf n R) (j : Nat) (hl : 2 * n - 2 ≤ (R j).length) :
    (∀ e ∈ countsOf n (flat ((R j).take (2 * n - 2))), e ≤ j) ∧ kraft j (countsOf n (flat ((R j).take (2 * n - 2)))) ≤ 2 ^ j := by
  have hp : (R j).Perm ((R j).take (2 * n - 2) ++ (R j).drop (2 * n - 2)) := by rw [List.take_append_drop]
  have hle : ∀ e ∈ countsOf n (flat ((R j).take (2 * n - 2))), e ≤ j := by
    intro e he
    simp only [countsOf, List.mem_map] at he
    obtain ⟨i, _, rfl⟩ := he
    have h1 := rows_count n R hR j i
    have h2 := count_perm (flat_perm hp) i
    rw [flat_append, List.count_append] at h2
    omega
  refine ⟨hle, ?_⟩
  have hw := rows_width n R hR j _ _ hp
  have hk := width_kraft j _ hle
  rw [countsOf_length] at hk
  rw [List.length_take, Nat.min_eq_left hl] at hw
  obtain ⟨m, rfl⟩ : ∃ m, n = m + 1 := ⟨n - 1, by omega⟩
  rw [show 2 * (m + 1) - 2 = 2 * m by omega, Nat.mul_assoc] at hw
  rw [Nat.add_mul, Nat.one_mul] at hk
  rw [show 2 * (m + 1) - 2 = 2 * m by omega] at hk ⊢
  omega
end Go.Proofs.YtpmoknnhgginjaaDoor.Hu.Huff
/- What the packages give costs just what the recursion from the top finds: both are the least. No program in it. -/
namespace Go.Proofs.YtpmoknnhgginjaaDoor.Hu.Huff

theorem pairs_join (ws : List Nat) (L : List It) : pairs (L.map (weightOf ws)) = (joinTwo L).map (weightOf ws) := by
  match L with
  | [] => rfl
  | [_] => rfl
  | a :: b :: L =>
    have ih := pairs_join ws L
    simp only [List.map_cons, pairs, joinTwo, ih, weightOf, List.map_append, List.sum_append]
theorem coins_weights (ws : List Nat) : (coinsOf ws.length).map (weightOf ws) = ws := by
  apply List.ext_getElem
  · simp [coinsOf]
  · intro i h1 h2
    simp [coinsOf, weightOf, List.getD_eq_getElem?_getD, List.getElem?_eq_getElem h2]

/-- Lengths that may be: of each at least 1, at most so many bits, not too many. -/
structure May (most : Nat) (ws es : List Nat) : Prop where
  len : es.length = ws.length
  pos : ∀ e ∈ es, 1 ≤ e
  le : ∀ e ∈ es, e ≤ most
  room : kraft most es ≤ 2 ^ most

theorem kraft_mem (j e : Nat) (es : List Nat) (h : e ∈ es) : 2 ^ (j - e) ≤ kraft j es := by
  induction es with
  | nil => cases h
  | cons x es ih =>
    rw [kraft]
    rcases List.mem_cons.1 h with rfl | h
    · omega
    · exact Nat.le_trans (ih h) (Nat.le_add_left _ _)
theorem kraft_pos (j : Nat) (es : List Nat) : es.length ≤ kraft j es := by
  induction es with
  | nil => simp
  | cons x es ih =>
    rw [kraft, List.length_cons]
    have := Nat.two_pow_pos (j - x)
    omega
/-- Where there are two or more, none is 0. -/
theorem no_zero (j : Nat) (es : List Nat) (h2 : 2 ≤ es.length) (hk : kraft j es ≤ 2 ^ j) : ∀ e ∈ es, 1 ≤ e := by
  intro e he
  rcases Nat.eq_zero_or_pos e with rfl | h
  · exfalso
    have key : ∀ l : List Nat, 0 ∈ l → 2 ≤ l.length → 2 ^ j + 1 ≤ kraft j l := by
      intro l hl hlen
      cases l with
      | nil => cases hl
      | cons x l =>
        rw [kraft]
        rcases List.mem_cons.1 hl with rfl | hm
        · have := kraft_pos j l
          simp only [List.length_cons] at hlen
          rw [Nat.sub_zero]
          omega
        · have h1 := kraft_mem j 0 l hm
          have h3 := Nat.two_pow_pos (j - x)
          rw [Nat.sub_zero] at h1
          omega
    have := key es he h2
    omega
  · exact h

/-- The packages' lengths may be, and none that may be cost less. -/
theorem package_best (ws : List Nat) (h2 : 2 ≤ ws.length) (R : Nat → List It) (hR : RowsOf ws.length R) (hs : ∀ j, ((R (j + 1)).map (weightOf ws)).Pairwise (· ≤ ·)) (most : Nat) (es : List Nat) (h : May most ws es) :
    2 * ws.length - 2 ≤ (R most).length ∧ May most ws (countsOf ws.length (flat ((R most).take (2 * ws.length - 2)))) ∧ dot ws (countsOf ws.length (flat ((R most).take (2 * ws.length - 2)))) ≤ dot ws es := by
  have hL : Rows ws (fun j => (R j).map (weightOf ws)) := by
    refine ⟨by simp [hR.1], fun j => ⟨hs j, ?_⟩⟩
    have e := (hR.2 j).map (weightOf ws)
    rw [List.map_append, coins_weights, ← pairs_join] at e
    exact e
  obtain ⟨h3, h4⟩ := package_least ws _ hL most es h.len h.le h.room
  simp only [List.length_map] at h3
  obtain ⟨h5, h6⟩ := package_fits ws.length h2 R hR most h3
  refine ⟨h3, ⟨countsOf_length _ _, no_zero most _ (by rw [countsOf_length]; exact h2) h6, h5, h6⟩, ?_⟩
  rw [dot_counts ws _ (by
    intro s hsf
    refine rows_syms ws.length R hR most s ?_
    have hp : (R most).Perm ((R most).take (2 * ws.length - 2) ++ (R most).drop (2 * ws.length - 2)) := by rw [List.take_append_drop]
    refine (flat_perm hp).symm.subset ?_
    rw [flat_append]
    exact List.mem_append_left _ hsf), ← weight_flat]
  rw [← List.map_take] at h4
  exact h4

/-- The same lengths for the same counts in another order. -/
theorem dot_perm {ws cs : List Nat} (h : ws.Perm cs) (es : List Nat) (hl : es.length = ws.length) : ∃ fs, es.Perm fs ∧ dot cs fs = dot ws es := by
  induction h generalizing es with
  | nil => exact ⟨es, List.Perm.refl _, rfl⟩
  | cons x _ ih => cases es with
    | nil => simp at hl
    | cons e es =>
      obtain ⟨fs, p, hd⟩ := ih es (by simpa using hl)
      exact ⟨e :: fs, (List.perm_cons e).2 p, by rw [dot_cons, dot_cons, hd]⟩
  | swap x y l => cases es with
    | nil => simp at hl
    | cons e es => cases es with
      | nil => simp at hl
      | cons f es => exact ⟨f :: e :: es, List.Perm.swap _ _ _, by simp only [dot_cons]; omega⟩
  | trans h1 _ ih1 ih2 =>
    obtain ⟨fs, p, hd⟩ := ih1 es hl
    obtain ⟨gs, q, hd2⟩ := ih2 fs (by rw [← p.length_eq, hl, h1.length_eq])
    exact ⟨gs, p.trans q, hd2.trans hd⟩
theorem kraft_perm (j : Nat) {es fs : List Nat} (h : es.Perm fs) : kraft j es = kraft j fs := by
  induction h with
  | nil => rfl
  | cons x _ ih => rw [kraft, kraft, ih]
  | swap x y l => simp only [kraft]; omega
  | trans _ _ ih1 ih2 => exact ih1.trans ih2
theorem May.perm {most : Nat} {ws cs es fs : List Nat} (h : May most ws es) (hp : es.Perm fs) (hl : ws.length = cs.length) : May most cs fs :=
  ⟨by rw [← hp.length_eq, h.len, hl], fun e he => h.pos e (hp.symm.subset he), fun e he => h.le e (hp.symm.subset he), by rw [← kraft_perm most hp]; exact h.room⟩

/-- Lengths that may be, a bit less each. -/
theorem May.fits {r : Nat} {cs es : List Nat} (h : May (r + 1) cs es) : ∃ fs, es = fs.map (· + 1) ∧ Fits r cs fs 2 ∧ dot cs es = dot cs fs + cs.sum := by
  have e : es = (es.map (· - 1)).map (· + 1) := by
    rw [List.map_map]
    have : ∀ l : List Nat, (∀ x ∈ l, 1 ≤ x) → l = l.map ((· + 1) ∘ (· - 1)) := by
      intro l hl
      induction l with
      | nil => rfl
      | cons y l ihl =>
        rw [List.map_cons, ← ihl (fun x hx => hl x (List.mem_cons_of_mem _ hx))]
        have := hl y (List.mem_cons_self ..)
        simp only [Function.comp]
        congr 1
        omega
    exact this es h.pos
  refine ⟨es.map (· - 1), e, ⟨by simp [h.len], ?_, ?_⟩, ?_⟩
  · intro x hx
    obtain ⟨y, hy, rfl⟩ := List.mem_map.1 hx
    have := h.le y hy
    omega
  · have hr := h.room
    rw [e, kraft_succ, Nat.pow_succ, Nat.mul_comm] at hr
    exact hr
  · have k := dot_succ cs (es.map (· - 1)) (by simp [h.len])
    rw [← e] at k
    exact k
theorem Fits.may {r : Nat} {cs fs : List Nat} (h : Fits r cs fs 2) : May (r + 1) cs (fs.map (· + 1)) := by
  refine ⟨by simp [h.len], ?_, ?_, ?_⟩
  · intro x hx
    obtain ⟨y, _, rfl⟩ := List.mem_map.1 hx
    omega
  · intro x hx
    obtain ⟨y, hy, rfl⟩ := List.mem_map.1 hx
    have := h.le y hy
    omega
  · rw [kraft_succ, Nat.pow_succ, Nat.mul_comm]
    exact h.room

/-- Lengths that may be and that none that may be undercut cost what the recursion finds. -/
theorem best_is_least (r : Nat) (ws cs es : List Nat) (hp : ws.Perm cs) (hc : Falling cs) (h : May (r + 1) ws es) (hb : ∀ fs, May (r + 1) ws fs → dot ws es ≤ dot ws fs) :
    ∃ v, least r cs 2 = some v ∧ dot ws es = v + cs.sum := by
  obtain ⟨es2, p1, d1⟩ := dot_perm hp es h.len
  obtain ⟨fs, e1, f1, d2⟩ := (h.perm p1 hp.length_eq).fits
  obtain ⟨v, l1, l2⟩ := least_le r cs fs 2 hc f1
  refine ⟨v, l1, ?_⟩
  obtain ⟨gs, f2, d3⟩ := least_fits r cs 2 v l1
  obtain ⟨hs, p2, d4⟩ := dot_perm hp.symm (gs.map (· + 1)) (by simp [f2.len])
  have m := f2.may.perm p2 hp.symm.length_eq
  have := hb hs m
  have d5 := dot_succ cs gs f2.len
  omega
/-- Enough places for all. -/
theorem may_some (most n : Nat) (ws : List Nat) (hn : ws.length = n) (hm : n ≤ 2 ^ most) (h1 : 1 ≤ most) : May most ws (List.replicate n most) := by
  refine ⟨by simp [hn], ?_, ?_, ?_⟩
  · intro e he; rw [List.eq_of_mem_replicate he]; exact h1
  · intro e he; rw [List.eq_of_mem_replicate he]; exact Nat.le_refl _
  · have : ∀ k, kraft most (List.replicate k most) = k := by
      intro k
      induction k with
      | zero => rfl
      | succ k ih => rw [List.replicate_succ, kraft, ih, Nat.sub_self]; omega
    rw [this]; exact hm
end Go.Proofs.YtpmoknnhgginjaaDoor.Hu.Huff
/- Of the least lengths: what is there more often is no longer; two symbols or more take all room. No program in it. -/
namespace Go.Proofs.YtpmoknnhgginjaaDoor.Hu.Huff

theorem dot_put (ws es : List Nat) (i x : Nat) (h : es.length = ws.length) (hi : i < es.length) : dot ws (es.set i x) + ws[i]'(by omega) * es[i] = dot ws es + ws[i]'(by omega) * x := by
  induction ws generalizing es i with
  | nil => exact absurd hi (by rw [h]; simp)
  | cons w ws ih => cases es with
    | nil => simp at h
    | cons e es => cases i with
      | zero => simp only [List.set_cons_zero, List.getElem_cons_zero, dot_cons]; omega
      | succ i =>
        simp only [List.set_cons_succ, List.getElem_cons_succ, dot_cons]
        have := ih es i (by simpa using h) (by simpa using hi)
        omega
theorem kraft_put (j : Nat) (es : List Nat) (i x : Nat) (hi : i < es.length) : kraft j (es.set i x) + 2 ^ (j - es[i]) = kraft j es + 2 ^ (j - x) := by
  induction es generalizing i with
  | nil => simp at hi
  | cons e es ih => cases i with
    | zero => simp only [List.set_cons_zero, List.getElem_cons_zero, kraft]; omega
    | succ i =>
      simp only [List.set_cons_succ, List.getElem_cons_succ, kraft]
      have := ih i (by simpa using hi)
      omega

theorem swap_gain (A B C q f a b : Nat) (d1 : B + (q + 1 + a) * (f + 1 + b) = A + (q + 1 + a) * f) (d2 : C + q * f = B + q * (f + 1 + b)) (hle : A ≤ C) : False := by
  have x1 : (q + 1 + a) * (f + 1 + b) = q * (f + 1 + b) + (1 + a) * (f + 1 + b) := by rw [show q + 1 + a = q + (1 + a) by omega, Nat.add_mul]
  have x2 : (q + 1 + a) * f = q * f + (1 + a) * f := by rw [show q + 1 + a = q + (1 + a) by omega, Nat.add_mul]
  have x3 : (1 + a) * (f + 1 + b) = (1 + a) * f + (1 + a) * (1 + b) := by rw [show f + 1 + b = f + (1 + b) by omega, Nat.mul_add]
  have x4 : 0 < (1 + a) * (1 + b) := Nat.mul_pos (by omega) (by omega)
  rw [x1, x2] at d1
  omega
theorem best_order (most : Nat) (ws es : List Nat) (h : May most ws es) (hb : ∀ fs, May most ws fs → dot ws es ≤ dot ws fs) (i j : Nat) (hi : i < es.length) (hj : j < es.length)
    (hw : ws[j]'(by have := h.len; omega) < ws[i]'(by have := h.len; omega)) : es[i] ≤ es[j] := by
  have hlen := h.len
  rcases Nat.lt_or_ge es[j] es[i] with hlt | hge
  · exfalso
    have hij : i ≠ j := by
      intro e
      subst e
      omega
    have hj2 : j < (es.set i es[j]).length := by simpa using hj
    have e1 : (es.set i es[j])[j]'hj2 = es[j] := List.getElem_set_ne hij hj2
    have d1 := dot_put ws es i es[j] hlen hi
    have d2 := dot_put ws (es.set i es[j]) j es[i] (by simpa using hlen) hj2
    have k1 := kraft_put most es i es[j] hi
    have k2 := kraft_put most (es.set i es[j]) j es[i] hj2
    rw [e1] at d2 k2
    have hm : May most ws ((es.set i es[j]).set j es[i]) := by
      refine ⟨by simp [hlen], ?_, ?_, ?_⟩
      · intro e he
        rcases List.mem_or_eq_of_mem_set he with he | rfl
        · rcases List.mem_or_eq_of_mem_set he with he | rfl
          · exact h.pos e he
          · exact h.pos _ (List.getElem_mem _)
        · exact h.pos _ (List.getElem_mem _)
      · intro e he
        rcases List.mem_or_eq_of_mem_set he with he | rfl
        · rcases List.mem_or_eq_of_mem_set he with he | rfl
          · exact h.le e he
          · exact h.le _ (List.getElem_mem _)
        · exact h.le _ (List.getElem_mem _)
      · have := h.room
        omega
    have hle := hb _ hm
    obtain ⟨a, ha⟩ : ∃ a, ws[i]'(by omega) = ws[j]'(by omega) + 1 + a := ⟨ws[i]'(by omega) - ws[j]'(by omega) - 1, by omega⟩
    obtain ⟨b, hb2⟩ : ∃ b, es[i] = es[j] + 1 + b := ⟨es[i] - es[j] - 1, by omega⟩
    rw [ha, hb2] at d1
    rw [hb2] at d2 hle
    exact swap_gain _ _ _ _ _ a b d1 d2 hle
  · exact hge

/-- Room is taken in steps of the longest. -/
theorem kraft_dvd (most m : Nat) (es : List Nat) (h : ∀ e ∈ es, e ≤ m) : 2 ^ (most - m) ∣ kraft most es := by
  induction es with
  | nil => exact Nat.dvd_zero _
  | cons e es ih =>
    rw [kraft]
    refine Nat.dvd_add (Nat.pow_dvd_pow 2 ?_) (ih (fun x hx => h x (List.mem_cons_of_mem _ hx)))
    have := h e (List.mem_cons_self ..)
    omega
theorem exists_longest (es : List Nat) (h : es ≠ []) : ∃ i, ∃ hi : i < es.length, ∀ e ∈ es, e ≤ es[i] := by
  induction es with
  | nil => exact absurd rfl h
  | cons x es ih =>
    by_cases h0 : es = []
    · subst h0
      exact ⟨0, by simp, by intro e he; simp at he; subst he; exact Nat.le_refl _⟩
    · obtain ⟨i, hi, hm⟩ := ih h0
      by_cases hx : x ≤ es[i]
      · refine ⟨i + 1, by simpa using hi, ?_⟩
        intro e he
        rcases List.mem_cons.1 he with rfl | he
        · exact hx
        · exact hm e he
      · refine ⟨0, by simp, ?_⟩
        intro e he
        rcases List.mem_cons.1 he with rfl | he
        · exact Nat.le_refl _
        · have := hm e he
          simp only [List.getElem_cons_zero]
          omega

theorem best_whole (most : Nat) (ws es : List Nat) (h2 : 2 ≤ ws.length) (hw : ∀ w ∈ ws, 0 < w) (h : May most ws es) (hb : ∀ fs, May most ws fs → dot ws es ≤ dot ws fs) : kraft most es = 2 ^ most := by
  have hlen := h.len
  have hroom := h.room
  rcases Nat.lt_or_ge (kraft most es) (2 ^ most) with hlt | hge
  · exfalso
    obtain ⟨i, hi, hm⟩ := exists_longest es (by intro e; rw [e] at hlen; simp at hlen; omega)
    have hpos := h.pos _ (List.getElem_mem hi)
    have hmost := h.le _ (List.getElem_mem hi)
    -- there is room for one step of the longest
    have hd := kraft_dvd most es[i] es hm
    have hd2 : 2 ^ (most - es[i]) ∣ 2 ^ most := Nat.pow_dvd_pow 2 (by omega)
    have hstep : kraft most es + 2 ^ (most - es[i]) ≤ 2 ^ most := by
      obtain ⟨a, ha⟩ := hd
      obtain ⟨b, hb2⟩ := hd2
      rw [ha, hb2] at hlt ⊢
      have hp := Nat.two_pow_pos (most - es[i])
      have hab : a < b := Nat.lt_of_mul_lt_mul_left hlt
      have : 2 ^ (most - es[i]) * (a + 1) ≤ 2 ^ (most - es[i]) * b := Nat.mul_le_mul_left _ hab
      rw [Nat.mul_add, Nat.mul_one] at this
      exact this
    by_cases h1 : es[i] = 1
    · -- all are 1: two of them take all room
      have hall : ∀ e ∈ es, e = 1 := by
        intro e he
        have h3 := hm e he
        have h4 := h.pos e he
        omega
      have hk : ∀ l : List Nat, (∀ e ∈ l, e = 1) → kraft most l = l.length * 2 ^ (most - 1) := by
        intro l hl
        induction l with
        | nil => simp [kraft]
        | cons x l ihl =>
          rw [kraft, ihl (fun y hy => hl y (List.mem_cons_of_mem _ hy)), hl x (List.mem_cons_self ..), List.length_cons, Nat.add_mul]
          omega
      have hk2 := hk es hall
      have h5 : 2 * 2 ^ (most - 1) ≤ es.length * 2 ^ (most - 1) := Nat.mul_le_mul_right _ (by omega)
      have h6 : 2 ^ most = 2 * 2 ^ (most - 1) := by
        obtain ⟨m, rfl⟩ : ∃ m, most = m + 1 := ⟨most - 1, by omega⟩
        rw [Nat.pow_succ, Nat.add_sub_cancel, Nat.mul_comm]
      omega
    · have d1 := dot_put ws es i (es[i] - 1) hlen hi
      have k1 := kraft_put most es i (es[i] - 1) hi
      have hpw : 2 ^ (most - (es[i] - 1)) = 2 * 2 ^ (most - es[i]) := by
        rw [show most - (es[i] - 1) = (most - es[i]) + 1 by omega, Nat.pow_succ, Nat.mul_comm]
      have hm2 : May most ws (es.set i (es[i] - 1)) := by
        refine ⟨by simp [hlen], ?_, ?_, by omega⟩
        · intro e he
          rcases List.mem_or_eq_of_mem_set he with he | rfl
          · exact h.pos e he
          · omega
        · intro e he
          rcases List.mem_or_eq_of_mem_set he with he | rfl
          · exact h.le e he
          · omega
      have hle := hb _ hm2
      have hwi := hw _ (List.getElem_mem (show i < ws.length by omega))
      obtain ⟨f, hf⟩ : ∃ f, es[i] = f + 1 := ⟨es[i] - 1, by omega⟩
      rw [hf, Nat.add_sub_cancel, Nat.mul_add, Nat.mul_one] at d1
      rw [hf, Nat.add_sub_cancel] at hle
      omega
  · omega
end Go.Proofs.YtpmoknnhgginjaaDoor.Hu.Huff

/- One place of the document's least: the contract of level, and what it says in plain words. -/
namespace Go.Proofs.YtpmoknnhgginjaaDoor.Hu
open Go.RowKit
set_option linter.unusedVariables false

/-- What one place is reckoned of. -/
def lvl (i n p d most h x S : Int) : Int :=
  if i = n then 0 else
  let l := if 0 < p then h else -1
  if 0 < p ∧ d < most then (if 0 ≤ x ∧ (l < 0 ∨ x + S < l) then x + S else l) else l
/-- A least cost as a number; none is below 0. -/
def enc : Option Nat → Int
  | none => -1
  | some v => v
theorem lvl_end (n p d most h x S : Int) : lvl n n p d most h x S = 0 := by unfold lvl; rw [if_pos rfl]
/-- The recursion's step. -/
theorem lvl_least (r : Nat) (a : Nat) (cs : List Nat) (i n p d most : Nat) (hin : i < n) (hr : most = d + r) :
    lvl i n p d most (enc (Huff.least r cs (p - 1))) (enc (Huff.least (r - 1) (a :: cs) (2 * p))) (a :: cs).sum = enc (Huff.least r (a :: cs) p) := by
  unfold lvl
  rw [if_neg (by omega)]
  cases p with
  | zero =>
    have e1 : enc (Huff.least r (a :: cs) 0) = -1 := by rw [Huff.least_none]; rfl
    rw [e1]
    simp
  | succ p =>
    simp only [show (0 : Int) < ((p + 1 : Nat) : Int) by omega, if_true, true_and, Nat.add_sub_cancel]
    cases r with
    | zero =>
      rw [if_neg (by omega), Huff.least_flat]
    | succ r =>
      rw [if_pos (by omega), Huff.least_deep, Nat.add_sub_cancel]
      cases h1 : Huff.least (r + 1) cs p with
      | none =>
        cases h2 : Huff.least r (a :: cs) (2 * (p + 1)) with
        | none => simp [enc, Huff.omin]
        | some x => simp [enc, Huff.omin]
      | some y =>
        cases h2 : Huff.least r (a :: cs) (2 * (p + 1)) with
        | none => simp [enc, Huff.omin]
        | some x =>
          generalize (a :: cs).sum = S
          show (if (0 : Int) ≤ (x : Int) ∧ ((y : Int) < 0 ∨ (x : Int) + (S : Int) < (y : Int)) then (x : Int) + (S : Int) else (y : Int)) = ((min y (x + S) : Nat) : Int)
          by_cases hlt : x + S < y
          · rw [if_pos (by omega), Nat.min_eq_right (by omega)]
            simp
          · rw [if_neg (by omega), Nat.min_eq_left (by omega)]

/-- A cell of a matrix in memory. -/
def At2 (w : World) (a : Option Addr) (rows cols i p : Nat) (z : Int) : Prop :=
  ∃ b off a' b' o' c', a = some ⟨b, off, none⟩ ∧ i < rows ∧ w.cell? ⟨b, off + i, none⟩ = some (.slice a' cols c') ∧ p < cols ∧ a' = some ⟨b', o', none⟩ ∧ w.cell? ⟨b', o' + p, none⟩ = some (.int .i64 z)
theorem At2.alloc {w : World} {a : Option Addr} {rows cols i p : Nat} {z : Int} (h : At2 w a rows cols i p z) (o : Obj) : At2 (w.alloc o) a rows cols i p z := by
  obtain ⟨b, off, a', b', o', c', h1, h2, h3, h4, h5, h6⟩ := h
  have up : ∀ q v, w.cell? q = some v → (w.alloc o).cell? q = some v := fun q v hv => (World.cell?_of_block (w := w) (Below.heap_alloc _ _ _ (World.block_lt_of_cell? w _ hv))).trans hv
  exact ⟨b, off, a', b', o', c', h1, h2, up _ _ h3, h4, h5, up _ _ h6⟩

end Go.Proofs.YtpmoknnhgginjaaDoor.Hu

/- The document's least: the matrices in memory, and the walk of Least. -/
namespace Go.Proofs.YtpmoknnhgginjaaDoor.Hu
open Go.RowKit
set_option linter.unusedVariables false

theorem dot_le (cs es : List Nat) (r : Nat) (h : ∀ e ∈ es, e ≤ r) : Huff.dot cs es ≤ r * cs.sum := by
  induction cs generalizing es with
  | nil => rw [Huff.dot_nil]; omega
  | cons c cs ih =>
    cases es with
    | nil => simp [Huff.dot]
    | cons e es =>
      rw [Huff.dot_cons, List.sum_cons, Nat.mul_add]
      have h1 := ih es (fun x hx => h x (List.mem_cons_of_mem _ hx))
      have h2 : c * e ≤ r * c := by rw [Nat.mul_comm]; exact Nat.mul_le_mul_right _ (h e (List.mem_cons_self ..))
      omega
theorem enc_bound (r : Nat) (cs : List Nat) (p : Nat) : -1 ≤ enc (Huff.least r cs p) ∧ enc (Huff.least r cs p) ≤ (r * cs.sum : Nat) := by
  cases h : Huff.least r cs p with
  | none => simp only [enc]; omega
  | some v =>
    obtain ⟨es, hf, hd⟩ := Huff.least_fits r cs p v h
    have := dot_le cs es r hf.le
    simp only [enc]
    omega
theorem drop_sum_le (cs : List Nat) (i : Nat) : (cs.drop i).sum ≤ cs.sum := by
  induction cs generalizing i with
  | nil => simp
  | cons c cs ih =>
    cases i with
    | zero => simp
    | succ i => rw [List.drop_succ_cons, List.sum_cons]; have := ih i; omega

/-- A matrix of the call's own: rows from lo on are filled; all its blocks lie below B. -/
structure Mat (w : World) (g n lo B : Nat) (F : Nat → Nat → Int) : Prop where
  lt : g < B
  cells : ∃ cur : Array Value, w.heap[g]? = some (.cells cur 35 (0, 0)) ∧ n + 1 ≤ cur.size ∧ ∀ i, lo ≤ i → i ≤ n → ∃ b, cur[i]? = some (.slice (some ⟨b, 0, none⟩) (n + 1) (n + 1)) ∧ b ≠ g ∧ b < B ∧ Row w b (n + 1) (F i)
theorem Mat.later {w w' : World} {g n lo B : Nat} {F : Nat → Nat → Int} (h : Mat w g n lo B F) (hk : ∀ k, k < B → w'.heap[k]? = w.heap[k]?) : Mat w' g n lo B F := by
  obtain ⟨hlt, cur, h1, h2, h3⟩ := h
  refine ⟨hlt, cur, (hk g hlt).trans h1, h2, fun i hi hn => ?_⟩
  obtain ⟨b, q1, q2, q3, q4⟩ := h3 i hi hn
  exact ⟨b, q1, q2, q3, q4.later (hk b q3)⟩
theorem Mat.grow {w : World} {g n lo B B' : Nat} {F : Nat → Nat → Int} (h : Mat w g n lo B F) (hB : B ≤ B') : Mat w g n lo B' F := by
  obtain ⟨hlt, cur, h1, h2, h3⟩ := h
  refine ⟨by omega, cur, h1, h2, fun i hi hn => ?_⟩
  obtain ⟨b, q1, q2, q3, q4⟩ := h3 i hi hn
  exact ⟨b, q1, q2, by omega, q4⟩
theorem Mat.at2 {w : World} {g n lo B i p : Nat} {F : Nat → Nat → Int} (h : Mat w g n lo B F) (h1 : lo ≤ i) (h2 : i ≤ n) (hp : p ≤ n) : At2 w (some ⟨g, 0, none⟩) (n + 1) (n + 1) i p (F i p) := by
  obtain ⟨hlt, cur, k1, k2, k3⟩ := h
  obtain ⟨b, q1, q2, q3, q4⟩ := k3 i h1 h2
  exact ⟨g, 0, some ⟨b, 0, none⟩, b, 0, n + 1, rfl, by omega, by simp [World.cell?, k1, q1], by omega, rfl, by have := (q4.cell (show p < n + 1 by omega)).1; simpa using this⟩
theorem Mat.spot {w : World} {g n lo B i : Nat} {F : Nat → Nat → Int} (h : Mat w g n lo B F) (h2 : i ≤ n) : ∃ v, w.cell? ⟨g, i, none⟩ = some v ∧ w.frozen? ⟨g, i, none⟩ = false := by
  obtain ⟨hlt, cur, k1, k2, k3⟩ := h
  exact ⟨cur[i]'(by omega), by simp [World.cell?, k1, show i < cur.size by omega], by simp [World.frozen?, k1]⟩
/-- One more row is hung in. -/
theorem Mat.hang {w : World} {g n lo B b : Nat} {F : Nat → Nat → Int} (h : Mat w g n (lo + 1) B F) (hn : lo ≤ n) (hb : B ≤ b) (hr : Row w b (n + 1) (F lo)) :
    Mat (w.setCell ⟨g, lo, none⟩ (.slice (some ⟨b, 0, none⟩) (n + 1) (n + 1))) g n lo (b + 1) F := by
  obtain ⟨hlt, cur, k1, k2, k3⟩ := h
  have other : ∀ k, k ≠ g → (w.setCell ⟨g, lo, none⟩ (.slice (some ⟨b, 0, none⟩) (n + 1) (n + 1))).heap[k]? = w.heap[k]? := fun k hk => Below.heap_setCell _ _ _ _ (by simpa using hk)
  refine ⟨by omega, cur.setIfInBounds lo (.slice (some ⟨b, 0, none⟩) (n + 1) (n + 1)), ?_, by simpa using k2, fun i hi hin => ?_⟩
  · simp only [World.setCell, Array.getElem?_modify, k1]
    simp
  · by_cases e : lo = i
    · subst e
      exact ⟨b, by rw [Array.getElem?_setIfInBounds_self_of_lt (by omega)], by omega, by omega, hr.later (other b (by omega))⟩
    · obtain ⟨b', q1, q2, q3, q4⟩ := k3 i (by omega) hin
      exact ⟨b', by rw [Array.getElem?_setIfInBounds_ne e]; exact q1, q2, by omega, q4.later (other b' q2)⟩
theorem made_mat (w : World) (n : Nat) (z : Value) (F : Nat → Nat → Int) : Mat (w.alloc (.cells (madeCells #[z] (n + 1)) 35)) w.heap.size n (n + 1) (w.heap.size + 1) F :=
  ⟨by omega, _, heap_alloc_new _ _, by rw [size_madeCells]; exact Nat.le_refl _, fun i hi hn => by omega⟩
theorem info22 : (Tryd.prog.info? 35).map (fun i => (i.zero, i.size, i.bytes)) = some (some (.slice none 0 0), 1, 24) := by kernel_rfl

/-- The sums of what stands from each place on. -/
def tails (cs : List Nat) (lo j : Nat) : Int := if lo ≤ j then ((cs.drop j).sum : Nat) else 0
theorem drop_cons {cs : List Nat} {i c : Nat} (h : cs[i]? = some c) : cs.drop i = c :: cs.drop (i + 1) := by
  obtain ⟨hl, e⟩ := List.getElem?_eq_some_iff.1 h
  rw [List.drop_eq_getElem_cons hl, e]

def ints (cs : List Nat) : List Int := cs.map (fun c : Nat => (c : Int))
theorem ints_get {cs : List Nat} {i : Nat} {z : Int} (h : (ints cs)[i]? = some z) : ∃ c, cs[i]? = some c ∧ z = (c : Int) := by
  unfold ints at h
  rw [List.getElem?_map] at h
  obtain ⟨c, h1, h2⟩ := Option.map_eq_some_iff.1 h
  exact ⟨c, h1, h2.symm⟩

end Go.Proofs.YtpmoknnhgginjaaDoor.Hu

/- The walk of the document's Least. -/
namespace Go.Proofs.YtpmoknnhgginjaaDoor.Hu
open Go.RowKit
set_option linter.unusedVariables false

theorem tails_more {cs : List Nat} {lo c : Nat} (h : cs[lo]? = some c) : tails cs lo lo = tails cs (lo + 1) (lo + 1) + (c : Int) := by
  unfold tails
  rw [if_pos (Nat.le_refl _), if_pos (Nat.le_refl _), drop_cons h, List.sum_cons]
  omega
theorem tails_else (cs : List Nat) (lo j : Nat) (h : j ≠ lo) : tails cs lo j = tails cs (lo + 1) j := by
  unfold tails
  by_cases h1 : lo ≤ j
  · rw [if_pos h1, if_pos (by omega)]
  · rw [if_neg h1, if_neg (by omega)]
theorem tails_bound (cs : List Nat) (lo j : Nat) : 0 ≤ tails cs lo j ∧ tails cs lo j ≤ (cs.sum : Nat) := by
  unfold tails
  split
  · have := drop_sum_le cs j; omega
  · omega

theorem below_drew {B : Nat} {w w1 : World} (h : Below B w w1) : Below B w w1.drew := ⟨h.os, h.tape, h.output, h.size, h.block⟩

/-- The sums are laid, and a matrix of which nothing is known. -/
structure Init (w : World) (cs : List Nat) (n g : Nat) (W : World) : Prop where
  row : Row W w.heap.size (n + 1) (tails cs 0)
  mat : Mat W g n (n + 1) (g + 1) (fun _ _ => 0)
  bel : Below w.heap.size w W
  lt : w.heap.size < g
theorem Init.kept {w W W' : World} {cs : List Nat} {n g : Nat} (h : Init w cs n g W) (hk : ∀ k, k < g + 1 → W'.heap[k]? = W.heap[k]?) (hb : Below w.heap.size w W') : Init w cs n g W' :=
  ⟨h.row.later (hk _ (by have := h.lt; omega)), h.mat.later hk, hb, h.lt⟩
theorem Init.glt {w W : World} {cs : List Nat} {n g : Nat} (h : Init w cs n g W) : g < W.heap.size := by
  obtain ⟨cur, h1, _⟩ := h.mat.cells
  exact lt_of_block h1
theorem Init.alloc {w W : World} {cs : List Nat} {n g : Nat} (h : Init w cs n g W) (o : Obj) : Init w cs n g (W.alloc o) :=
  h.kept (fun k hk => Below.heap_alloc _ _ _ (by have := h.glt; omega)) (h.bel.alloc (by have := h.glt; have := h.lt; omega) o)
theorem Init.other {w W : World} {cs : List Nat} {n g b i : Nat} (h : Init w cs n g W) (hb : g < b) (v : Value) : Init w cs n g (W.setCell ⟨b, i, none⟩ v) :=
  h.kept (fun k hk => Below.heap_setCell _ _ _ _ (by simp only; omega)) (below_set h.bel (by have := h.lt; omega) v)
theorem Init.spot_set {w W : World} {cs : List Nat} {n g i : Nat} (h : Init w cs n g W) (v : Value) : Init w cs n g (W.setCell ⟨g, i, none⟩ v) := by
  refine ⟨h.row.later (Below.heap_setCell _ _ _ _ (by have := h.lt; simp only; omega)), ?_, below_set h.bel (by have := h.lt; omega) v, h.lt⟩
  obtain ⟨cur, k1, k2, k3⟩ := h.mat.cells
  refine ⟨by omega, cur.setIfInBounds i v, ?_, by simpa using k2, fun i hi hn => by omega⟩
  simp only [World.setCell, Array.getElem?_modify, k1]
  simp
theorem cell_set (w : World) (g i : Nat) (u v : Value) (h : w.cell? ⟨g, i, none⟩ = some u) : (w.setCell ⟨g, i, none⟩ v).cell? ⟨g, i, none⟩ = some v := by
  simp only [World.cell?] at h ⊢
  simp only [World.setCell, Array.getElem?_modify]
  cases hb : w.heap[g]? with
  | none => rw [hb] at h; simp at h
  | some o =>
    rw [hb] at h
    cases o with
    | cells c e f =>
      simp only at h
      have hl : i < c.size := (Array.getElem?_eq_some_iff.1 h).1
      simp [Array.getElem?_setIfInBounds_self_of_lt hl]
    | _ => simp at h

theorem Mat.join {w : World} {g n i b : Nat} {G : Nat → Nat → Int} (h : Mat w g n (i + 1) b G) (hi : i ≤ n) (hc : w.cell? ⟨g, i, none⟩ = some (.slice (some ⟨b, 0, none⟩) (n + 1) (n + 1))) (hr : Row w b (n + 1) (G i)) : Mat w g n i (b + 1) G := by
  obtain ⟨hlt, cur, k1, k2, k3⟩ := h
  refine ⟨by omega, cur, k1, k2, fun j hj hn => ?_⟩
  by_cases e : i = j
  · subst e
    refine ⟨b, ?_, by omega, by omega, hr⟩
    simpa [World.cell?, k1] using hc
  · obtain ⟨b', q1, q2, q3, q4⟩ := k3 j (by omega) hn
    exact ⟨b', q1, q2, by omega, q4⟩

/-- A level under way: the matrix below it, the sums, the rows of this one from lo on. -/
structure Lev (w : World) (cs : List Nat) (n g lo0 : Nat) (F : Nat → Nat → Int) (gN lo : Nat) (G : Nat → Nat → Int) (W : World) : Prop where
  best : Mat W g n lo0 gN F
  now : Mat W gN n lo W.heap.size G
  sums : Row W w.heap.size (n + 1) (tails cs 0)
  bel : Below w.heap.size w W
  lt : w.heap.size < g
/-- A row of it under way. -/
structure Cur (w : World) (cs : List Nat) (n g lo0 : Nat) (F : Nat → Nat → Int) (gN : Nat) (G : Nat → Nat → Int) (i b p : Nat) (W : World) : Prop where
  best : Mat W g n lo0 gN F
  now : Mat W gN n (i + 1) b G
  cell : W.cell? ⟨gN, i, none⟩ = some (.slice (some ⟨b, 0, none⟩) (n + 1) (n + 1))
  row : Row W b (n + 1) (fun j => if j < p then G i j else 0)
  sums : Row W w.heap.size (n + 1) (tails cs 0)
  bel : Below w.heap.size w W
  lt : w.heap.size < g
theorem Cur.done {w W : World} {cs : List Nat} {n g lo0 gN i b : Nat} {F G : Nat → Nat → Int} (h : Cur w cs n g lo0 F gN G i b (n + 1) W) (hi : i ≤ n) : Lev w cs n g lo0 F gN i G W :=
  ⟨h.best, (h.now.join hi h.cell (h.row.congr (fun j hj => by rw [if_pos hj]))).grow (by have := h.row.lt; omega), h.sums, h.bel, h.lt⟩
theorem Lev.begin {w W : World} {cs : List Nat} {n g lo0 gN i : Nat} {F G : Nat → Nat → Int} (h : Lev w cs n g lo0 F gN (i + 1) G W) (hi : i ≤ n) :
    Cur w cs n g lo0 F gN G i W.heap.size 0 ((W.alloc (.cells (madeCells #[.int .i64 0] (n + 1)) 3)).setCell ⟨gN, i, none⟩ (.slice (some ⟨W.heap.size, 0, none⟩) (n + 1) (n + 1))) := by
  have hgN := h.now.lt
  have hg := h.best.lt
  have hl := h.lt
  have up : ∀ k, k < W.heap.size → k ≠ gN → ((W.alloc (.cells (madeCells #[.int .i64 0] (n + 1)) 3)).setCell ⟨gN, i, none⟩ (.slice (some ⟨W.heap.size, 0, none⟩) (n + 1) (n + 1))).heap[k]? = W.heap[k]? := fun k hk hne =>
    (Below.heap_setCell _ _ _ _ (by simpa using hne)).trans (Below.heap_alloc _ _ _ hk)
  obtain ⟨old, hold, _⟩ := (h.now.later (w' := W.alloc (.cells (madeCells #[.int .i64 0] (n + 1)) 3)) (fun k hk => Below.heap_alloc _ _ _ hk)).spot hi
  refine ⟨h.best.later (fun k hk => up k (by omega) (by omega)), ?_, cell_set _ _ _ _ _ hold, ?_, h.sums.later (up _ (by omega) (by omega)), below_set (h.bel.alloc (by omega) _) (by omega) _, hl⟩
  · obtain ⟨hlt, cur, k1, k2, k3⟩ := h.now
    refine ⟨hlt, cur.setIfInBounds i (.slice (some ⟨W.heap.size, 0, none⟩) (n + 1) (n + 1)), ?_, by simpa using k2, fun j hj hn => ?_⟩
    · have e := (Below.heap_alloc W (.cells (madeCells #[.int .i64 0] (n + 1)) 3) gN hlt).trans k1
      simp only [World.setCell, Array.getElem?_modify, e]
      simp
    · obtain ⟨b', q1, q2, q3, q4⟩ := k3 j hj hn
      exact ⟨b', by rw [Array.getElem?_setIfInBounds_ne (by omega)]; exact q1, q2, q3, q4.later (up b' q3 q2)⟩
  · refine ((made_row W (n + 1)).later (Below.heap_setCell _ _ _ _ (by simp only; omega))).congr (fun j hj => ?_)
    rw [if_neg (by omega)]
theorem Cur.step {w W W' : World} {cs : List Nat} {n g lo0 gN i b p : Nat} {F G : Nat → Nat → Int} {z : Int} (h : Cur w cs n g lo0 F gN G i b p W) (hb : Below W.heap.size W W') (hp : p < n + 1) (hz : z = G i p) :
    Cur w cs n g lo0 F gN G i b (p + 1) (W'.setCell ⟨b, p, none⟩ (.int .i64 z)) := by
  have hgN := h.now.lt
  have hg := h.best.lt
  have hl := h.lt
  have hbl := h.row.lt
  have up : ∀ k, k < W.heap.size → k ≠ b → (W'.setCell ⟨b, p, none⟩ (.int .i64 z)).heap[k]? = W.heap[k]? := fun k hk hne =>
    (Below.heap_setCell _ _ _ _ (by simpa using hne)).trans (hb.block k hk)
  refine ⟨h.best.later (fun k hk => up k (by omega) (by omega)), h.now.later (fun k hk => up k (by omega) (by omega)), (World.cell?_of_block (w := W) (up gN (by omega) (by omega))).trans h.cell, ?_, h.sums.later (up _ (by omega) (by omega)), ?_, hl⟩
  · refine (h.row.later (hb.block b hbl)).set hp (fun j hj => ?_)
    by_cases e : j = p
    · rw [if_pos e, if_pos (by omega), hz, e]
    · rw [if_neg e]
      by_cases e2 : j < p
      · rw [if_pos e2, if_pos (by omega)]
      · rw [if_neg e2, if_neg (by omega)]
  · refine below_set (h.bel.trans ⟨hb.os, hb.tape, hb.output, hb.size, fun k hk => hb.block k (by omega)⟩) (by omega) _

/-- A level that is done. -/
structure Base (w : World) (cs : List Nat) (n g lo0 : Nat) (F : Nat → Nat → Int) (W : World) : Prop where
  mat : Mat W g n lo0 W.heap.size F
  sums : Row W w.heap.size (n + 1) (tails cs 0)
  bel : Below w.heap.size w W
  lt : w.heap.size < g
theorem Init.base {w W : World} {cs : List Nat} {n g : Nat} (h : Init w cs n g W) : Base w cs n g (n + 1) (fun _ _ => 0) W := ⟨h.mat.grow (by have := h.glt; omega), h.row, h.bel, h.lt⟩
theorem Base.lev {w W : World} {cs : List Nat} {n g lo0 : Nat} {F : Nat → Nat → Int} (h : Base w cs n g lo0 F W) (G : Nat → Nat → Int) :
    Lev w cs n g lo0 F W.heap.size (n + 1) G (W.alloc (.cells (madeCells #[.slice none 0 0] (n + 1)) 35)) := by
  have hl := h.lt
  have hg := h.mat.lt
  exact ⟨h.mat.later (fun k hk => Below.heap_alloc _ _ _ hk), (made_mat W n _ G).grow (by simp), h.sums.later (Below.heap_alloc _ _ _ (by omega)), h.bel.alloc (by omega) _, hl⟩
theorem Lev.base {w W : World} {cs : List Nat} {n g lo0 gN : Nat} {F G : Nat → Nat → Int} (h : Lev w cs n g lo0 F gN 0 G W) : Base w cs n gN 0 G W := ⟨h.now, h.sums, h.bel, by have := h.best.lt; have := h.lt; omega⟩

end Go.Proofs.YtpmoknnhgginjaaDoor.Hu

/- The law's own order of counts, falling: the contract of sorted. -/
namespace Go.Proofs.YtpmoknnhgginjaaDoor.Hu
open Go.RowKit
set_option linter.unusedVariables false

/-- Put into a falling row, behind all that aren't smaller. -/
def insD (z : Int) (l : List Int) : List Int := l.takeWhile (fun x => decide (z ≤ x)) ++ z :: l.dropWhile (fun x => decide (z ≤ x))
/-- The counts above 0, falling. -/
def sortD : List Int → List Int → List Int
  | acc, [] => acc
  | acc, z :: zs => if z ≤ 0 then sortD acc zs else sortD (insD z acc) zs
def step1 (acc : List Int) (z : Int) : List Int := if z ≤ 0 then acc else insD z acc
theorem sortD_fold (acc zs : List Int) : sortD acc zs = zs.foldl step1 acc := by
  induction zs generalizing acc with
  | nil => rfl
  | cons z zs ih =>
    rw [sortD, List.foldl_cons, step1]
    split <;> exact ih _
def FallZ (l : List Int) : Prop := l.Pairwise (fun a b => b ≤ a)
theorem insD_perm (z : Int) (l : List Int) : (insD z l).Perm (z :: l) := by
  unfold insD
  have e := List.takeWhile_append_dropWhile (p := fun x => decide (z ≤ x)) (l := l)
  refine List.Perm.trans List.perm_middle ?_
  rw [e]
theorem insD_fall (z : Int) (l : List Int) (h : FallZ l) : FallZ (insD z l) := by
  induction l with
  | nil => simp [insD, FallZ]
  | cons x l ih =>
    obtain ⟨h1, h2⟩ := List.pairwise_cons.1 h
    by_cases hx : z ≤ x
    · have e : insD z (x :: l) = x :: insD z l := by simp [insD, hx]
      rw [e]
      refine List.pairwise_cons.2 ⟨fun y hy => ?_, ih h2⟩
      have := (insD_perm z l).mem_iff.1 hy
      rcases List.mem_cons.1 this with rfl | hm
      · exact hx
      · exact h1 y hm
    · have e : insD z (x :: l) = z :: x :: l := by simp [insD, hx]
      rw [e]
      refine List.pairwise_cons.2 ⟨fun y hy => ?_, h⟩
      rcases List.mem_cons.1 hy with rfl | hm
      · omega
      · have := h1 y hm; omega
theorem sortD_fall (acc zs : List Int) (h : FallZ acc) : FallZ (sortD acc zs) := by
  induction zs generalizing acc with
  | nil => exact h
  | cons z zs ih =>
    rw [sortD]
    split
    · exact ih _ h
    · exact ih _ (insD_fall z acc h)
theorem sortD_perm (acc zs : List Int) : (sortD acc zs).Perm (acc ++ zs.filter (fun z => decide (0 < z))) := by
  induction zs generalizing acc with
  | nil => simp [sortD]
  | cons z zs ih =>
    rw [sortD]
    by_cases hz : z ≤ 0
    · rw [if_pos hz, List.filter_cons_of_neg (by simp; omega)]
      exact ih acc
    · rw [if_neg hz, List.filter_cons_of_pos (by simp; omega)]
      refine (ih _).trans ?_
      refine (List.Perm.append_right _ (insD_perm z acc)).trans ?_
      rw [List.cons_append]
      exact List.perm_middle.symm

def vals (xs : List Int) : List Value := xs.map (Value.int .i64)
theorem vals_length (xs : List Int) : (vals xs).length = xs.length := by simp [vals]
theorem add_spot (b off j : Nat) : ((⟨b, off, none⟩ : Addr).add j) = ⟨b, off + j, none⟩ := by
  unfold Addr.add
  split
  · rename_i h; subst h; rfl
  · rfl
theorem own_kept {w w' : World} {B n : Nat} {v : Value} {xs : List Value} (h : w.ownsRow B 3 1 v n xs) (hk : ∀ k, v.ownBlock = some k → w'.heap[k]? = w.heap[k]?) : w'.ownsRow B 3 1 v n xs := by
  obtain ⟨h1, h2⟩ := h
  refine ⟨h1, ?_⟩
  rcases h2 with h2 | ⟨g, cap, cur, rfl, hg, hh, r⟩
  · exact Or.inl h2
  · exact Or.inr ⟨g, cap, cur, rfl, hg, (hk g rfl).trans hh, r⟩

/-- append of whole numbers to a row of the call's own, as one step. -/
theorem run_append_ints (w : World) (ty : TypeId) (base n : Nat) (v : Value) (xs : List Int) (hown : w.ownsRow base 3 1 v n (vals xs)) (ad : Option Addr) (m c : Nat) (ds : List Int) (hb : Ints w ad m ds) (hc : ad = none → m = 0 ∧ c = 0) (hn : n ≤ 33554432) (hm : m ≤ 33554432) (hbase : base ≤ w.heap.size) :
    ∃ aa cap w', (Builtin.append_ #[35, 35] ty #[v, .slice ad m c]).run Tryd.prog w = .ok (.slice aa (n + m) cap) w' ∧
      w'.ownsRow base 3 1 (.slice aa (n + m) cap) (n + m) (vals (xs ++ ds)) ∧ w.grownBy w' v.ownBlock ∧ ((Value.slice aa (n + m) cap).ownBlock = v.ownBlock ∨ (Value.slice aa (n + m) cap).ownBlock = some w.heap.size) := by
  obtain ⟨i0, hi, hz0, hz1, hz2⟩ := info_parts info3
  obtain ⟨hl, hby, hcell⟩ := hb
  cases ad with
  | none =>
    obtain ⟨rfl, rfl⟩ := hc rfl
    obtain rfl : ds = [] := List.eq_nil_of_length_eq_zero hl
    have hr := run_append_owned_none (P := Tryd.prog) (w := w) base 35 ty 3 i0 1 Tryd.underlying35 hi _ _ _ hown
    have hv : ∃ aa cap, v = .slice aa n cap := by
      rcases hown.2 with ⟨e, e2⟩ | ⟨g, cap, _, e, _⟩
      · exact ⟨none, 0, by rw [e, e2]⟩
      · exact ⟨_, _, e⟩
    obtain ⟨aa, cap, rfl⟩ := hv
    refine ⟨aa, cap, w, hr, ?_, ⟨rfl, rfl, rfl, Nat.le_refl _, fun _ _ _ => rfl⟩, Or.inl rfl⟩
    rw [List.append_nil]
    exact hown
  | some ad =>
    obtain ⟨v', w', hr, h1, h2, h4, h5⟩ := run_append_own_at (P := Tryd.prog) w base 35 ty 3 i0 (.int .i64 0) 1 8 Tryd.underlying35 hi hz0 hz1 hz2 rfl (by decide) _ n _ hown ad m c (vals ds) (by rw [vals_length]; omega)
      (by
        intro j u hj
        unfold vals at hj
        rw [List.getElem?_map] at hj
        have hjl : j < ds.length := by
          rcases Nat.lt_or_ge j ds.length with h | h
          · exact h
          · rw [List.getElem?_eq_none h] at hj; cases hj
        obtain ⟨b, off, e, hcl⟩ := hcell (by omega)
        cases e
        rw [List.getElem?_eq_getElem hjl] at hj
        rw [add_spot, hcl j _ (List.getElem?_eq_getElem hjl)]
        simpa using hj)
      (by intro u hu; unfold vals at hu; simp only [List.mem_map] at hu; obtain ⟨y, _, rfl⟩ := hu; rfl) (by unfold maxLen; omega) (by omega) hbase
    have hv : ∃ aa cap, v' = .slice aa (n + m) cap := by
      rcases h1.2 with ⟨e, e2⟩ | ⟨g, cap, _, e, _⟩
      · exact ⟨none, 0, by rw [e, e2]⟩
      · exact ⟨_, _, e⟩
    obtain ⟨aa, cap, rfl⟩ := hv
    have e : vals xs ++ vals ds = vals (xs ++ ds) := by simp [vals]
    rw [e] at h1
    exact ⟨aa, cap, w', hr, h1, h2, h5⟩

theorem step_append_ints {w : World} {ops : Array Oper} {o : Oper} {a : Act} {K : Act → World → Prop} {Q : Exit → Act → World → Prop} {E : Prop} (hgd : o.guard = none) (s x : Operand) (ho : o.op = .call { callee := .builtin .append, args := #[s, x], argTypes := #[35, 35] })
    (base n : Nat) (v : Value) (xs : List Int) (hs : a.eval s = v) (hown : w.ownsRow base 3 1 v n (vals xs))
    (ad : Option Addr) (m c : Nat) (ds : List Int) (hx : a.eval x = .slice ad m c) (hb : Ints w ad m ds) (hc : ad = none → m = 0 ∧ c = 0) (hn : n ≤ 33554432) (hm : m ≤ 33554432) (hbase : base ≤ w.heap.size)
    (h : ∀ aa cap w', w'.ownsRow base 3 1 (.slice aa (n + m) cap) (n + m) (vals (xs ++ ds)) → w.grownBy w' v.ownBlock → ((Value.slice aa (n + m) cap).ownBlock = v.ownBlock ∨ (Value.slice aa (n + m) cap).ownBlock = some w.heap.size) → K (a.put o.dst (.slice aa (n + m) cap)) w') :
    if Region.wanted o (yielded ops a.tmps) = true then Oper.wp Tryd.prog o a w K Q else E := by
  have hw : Region.wanted o (yielded ops a.tmps) = true := by simp [Region.wanted, hgd]
  rw [if_pos hw]
  obtain ⟨aa, cap, w', hr, h1, h2, h3⟩ := run_append_ints w o.type base n v xs hown ad m c ds hb hc hn hm hbase
  unfold Oper.wp execOp
  simp only [ho, resolve, invoke, builtin, Sem.run_bind, Sem.run_pure, Result.andThen_ok, List.map_toArray, List.map_cons, List.map_nil, hs, hx, hr]
  exact h aa cap w' h1 h2 h3
end Go.Proofs.YtpmoknnhgginjaaDoor.Hu

/- The walk of sorted. -/
namespace Go.Proofs.YtpmoknnhgginjaaDoor.Hu
open Go.RowKit
set_option linter.unusedVariables false

theorem insD_at (z : Int) (l : List Int) (t : Nat) (h1 : ∀ x ∈ l.take t, z ≤ x) (h2 : ∀ x, l[t]? = some x → x < z) : insD z l = l.take t ++ z :: l.drop t := by
  induction l generalizing t with
  | nil => simp [insD]
  | cons y l ih =>
    cases t with
    | zero =>
      have := h2 y rfl
      have hn : ¬ z ≤ y := by omega
      simp [insD, hn]
    | succ t =>
      have hy := h1 y (by simp)
      have e : insD z (y :: l) = y :: insD z l := by simp [insD, hy]
      rw [e, ih t (fun x hx => h1 x (by simp [hx])) (fun x hx => h2 x (by simpa using hx))]
      simp
theorem insD_length (z : Int) (l : List Int) : (insD z l).length = l.length + 1 := by rw [(insD_perm z l).length_eq]; simp
theorem sortD_snoc (zs : List Int) (z : Int) : sortD [] (zs ++ [z]) = step1 (sortD [] zs) z := by
  rw [sortD_fold, sortD_fold, List.foldl_append]; rfl

/-- A row of the call's own, read. -/
theorem own_ints {w : World} {B n c : Nat} {aa : Option Addr} {xs : List Int} (h : w.ownsRow B 3 1 (.slice aa n c) n (vals xs)) (hb : ∀ z ∈ xs, -9223372036854775808 ≤ z ∧ z ≤ 9223372036854775807) : Ints w aa n xs ∧ n ≤ c ∧ (aa = none → n = 0 ∧ c = 0) := by
  obtain ⟨hl, h2⟩ := h
  rw [vals_length] at hl
  refine ⟨⟨by omega, hb, fun hp => ?_⟩, ?_⟩
  · rcases h2 with ⟨_, e2⟩ | ⟨g, cap, cur, e, hB, hh, p1, p2, p3, p4⟩
    · omega
    · cases e
      refine ⟨g, 0, rfl, fun j y hj => ?_⟩
      have hj2 : (vals xs)[j]? = (cur.toList.take (n * 1))[j]? := by rw [p4]
      have hjl : j < n := by have := (List.getElem?_eq_some_iff.1 hj).1; omega
      unfold vals at hj2
      rw [List.getElem?_take_of_lt (by omega), List.getElem?_map, hj] at hj2
      have hj3 : cur[j]? = some (.int .i64 y) := by simpa using hj2.symm
      simp [World.cell?, hh, hj3]
  · rcases h2 with ⟨e, e2⟩ | ⟨g, cap, cur, e, hB, hh, p1, p2, p3, p4⟩
    · cases e
      exact ⟨Nat.le_refl _, fun _ => ⟨rfl, rfl⟩⟩
    · cases e
      exact ⟨p1, fun h => by cases h⟩
theorem Ints.take {w : World} {a : Option Addr} {n k : Nat} {ys : List Int} (h : Ints w a n ys) (hk : k ≤ n) : Ints w a k (ys.take k) := by
  obtain ⟨h1, h2, h3⟩ := h
  refine ⟨by rw [List.length_take]; omega, fun y hy => h2 y (List.mem_of_mem_take hy), fun hp => ?_⟩
  obtain ⟨b, off, e, hc⟩ := h3 (by omega)
  exact ⟨b, off, e, fun j y hj => hc j y (by
    rw [List.getElem?_take] at hj
    split at hj
    · exact hj
    · cases hj)⟩
theorem Ints.drop {w : World} {a : Option Addr} {r c k : Nat} {zs : List Int} (h : Ints w a r zs) (hk : k ≤ r) (hc : r ≤ c) : Ints w (if c = k then a else a.map (fun x => x.add k)) (r - k) (zs.drop k) := by
  obtain ⟨h1, h2, h3⟩ := h
  refine ⟨by simp [h1], fun y hy => h2 y (List.mem_of_mem_drop hy), fun hp => ?_⟩
  obtain ⟨b, off, rfl, hcell⟩ := h3 (by omega)
  rw [if_neg (by omega)]
  refine ⟨b, off + k, by simp only [Option.map_some, add_spot], fun j y hj => ?_⟩
  rw [List.getElem?_drop] at hj
  rw [Nat.add_assoc]
  exact hcell _ _ hj

/-- What sorted tells: memory of the call's own. -/
def SortTold (w : World) (xs : List Int) (e : Ending) (w' : World) : Prop :=
  ∃ aa cap, e = .returned (.slice aa xs.length cap) ∧ w'.ownsRow w.heap.size 3 1 (.slice aa xs.length cap) xs.length (vals xs) ∧ Below w.heap.size w w'

theorem lit_ints (W w1 : World) (g : Nat) (z : Int) (hb : -9223372036854775808 ≤ z ∧ z ≤ 9223372036854775807) (h : w1.heap[g]? = some (.cells #[.int .i64 z] 3 (0, 0))) : Ints w1 (some ⟨g, 0, none⟩) 1 [z] := by
  refine ⟨rfl, fun y hy => by simp only [List.mem_singleton] at hy; rw [hy]; exact hb, fun _ => ⟨g, 0, rfl, fun j y hj => ?_⟩⟩
  cases j with
  | zero =>
    simp only [List.getElem?_cons_zero, Option.some.injEq] at hj
    subst hj
    simp [World.cell?, h]
  | succ j => simp at hj
theorem own_lit (w1 : World) (B g : Nat) (hg : B ≤ g) (h : w1.heap[g]? = some (.cells #[] 3 (0, 0))) : w1.ownsRow B 3 1 (.slice (some ⟨g, 0, none⟩) 0 0) 0 (vals []) :=
  ⟨by simp [vals], Or.inr ⟨g, 0, #[], rfl, hg, h, Nat.le_refl _, by unfold maxLen; omega, rfl, rfl⟩⟩
theorem heap_two (w : World) (o1 o2 : Obj) : ((w.alloc o1).alloc o2).heap[w.heap.size]? = some o1 ∧ ((w.alloc o1).alloc o2).heap[w.heap.size + 1]? = some o2 := by
  refine ⟨?_, ?_⟩
  · rw [Below.heap_alloc _ _ _ (by simp)]
    exact heap_alloc_new _ _
  · have e : (w.alloc o1).heap.size = w.heap.size + 1 := by simp
    rw [← e]
    exact heap_alloc_new _ _

/-- A row of the call's own, behind what was there at wo. -/
structure Stg (wo : World) (B : Nat) (v : Value) (n : Nat) (xs : List Int) (W : World) : Prop where
  own : W.ownsRow B 3 1 v n (vals xs)
  bel : Below wo.heap.size wo W
  high : ∀ k, v.ownBlock = some k → wo.heap.size ≤ k
  low : B ≤ wo.heap.size
theorem Stg.alloc {wo W : World} {B n : Nat} {v : Value} {xs : List Int} (h : Stg wo B v n xs W) (o : Obj) : Stg wo B v n xs (W.alloc o) :=
  ⟨own_kept h.own (fun k e => Below.heap_alloc _ _ _ (h.own.lt k e).2), h.bel.alloc h.bel.size o, h.high, h.low⟩
theorem Stg.drew {wo W : World} {B n : Nat} {v : Value} {xs : List Int} (h : Stg wo B v n xs W) : Stg wo B v n xs W.drew := ⟨h.own, below_drew h.bel, h.high, h.low⟩
theorem Stg.src {wo W : World} {B n : Nat} {v : Value} {xs : List Int} (h : Stg wo B v n xs W) {a : Option Addr} {m : Nat} {ys : List Int} (hi : Ints wo a m ys) : Ints W a m ys := hi.below h.bel
theorem step_app {wo w : World} {ops : Array Oper} {o : Oper} {a : Act} {K : Act → World → Prop} {Q : Exit → Act → World → Prop} {E : Prop} (hgd : o.guard = none) (s x : Operand) (ho : o.op = .call { callee := .builtin .append, args := #[s, x], argTypes := #[35, 35] })
    (base n : Nat) (v : Value) (xs : List Int) (hs : a.eval s = v) (S : Stg wo base v n xs w)
    (ad : Option Addr) (m c : Nat) (ds : List Int) (hx : a.eval x = .slice ad m c) (hb : Ints w ad m ds) (hc : ad = none → m = 0 ∧ c = 0) (hn : n ≤ 33554432) (hm : m ≤ 33554432)
    (h : ∀ aa cap w', Stg wo base (.slice aa (n + m) cap) (n + m) (xs ++ ds) w' → (∀ k, k < w.heap.size → some k ≠ v.ownBlock → w'.heap[k]? = w.heap[k]?) → K (a.put o.dst (.slice aa (n + m) cap)) w') :
    if Region.wanted o (yielded ops a.tmps) = true then Oper.wp Tryd.prog o a w K Q else E := by
  refine step_append_ints hgd s x ho base n v xs hs S.own ad m c ds hx hb hc hn hm (Nat.le_trans S.low S.bel.size) ?_
  intro aa cap w' h1 h2 h3
  refine h aa cap w' ⟨h1, S.bel.trans ⟨h2.os, h2.tape, h2.output, h2.size, fun k hk => h2.block k (Nat.lt_of_lt_of_le hk S.bel.size) (fun e => by have := S.high k e.symm; omega)⟩, ?_, S.low⟩ h2.block
  intro k hk
  rcases h3 with e | e
  · exact S.high k (e ▸ hk)
  · rw [e] at hk
    cases hk
    exact S.bel.size
theorem step_app0 {wo w : World} {ops : Array Oper} {o : Oper} {a : Act} {K : Act → World → Prop} {Q : Exit → Act → World → Prop} {E : Prop} (hgd : o.guard = none) (s x : Operand) (ho : o.op = .call { callee := .builtin .append, args := #[s, x], argTypes := #[35, 35] })
    (base : Nat) (v : Value) (hs : a.eval s = v) (S : Stg wo base v 0 [] w)
    (ad : Option Addr) (m c : Nat) (ds : List Int) (hx : a.eval x = .slice ad m c) (hb : Ints w ad m ds) (hc : ad = none → m = 0 ∧ c = 0) (hm : m ≤ 33554432)
    (h : ∀ aa cap w', Stg wo base (.slice aa m cap) m ds w' → (∀ k, k < w.heap.size → some k ≠ v.ownBlock → w'.heap[k]? = w.heap[k]?) → K (a.put o.dst (.slice aa m cap)) w') :
    if Region.wanted o (yielded ops a.tmps) = true then Oper.wp Tryd.prog o a w K Q else E := by
  refine step_app hgd s x ho base 0 v [] hs S ad m c ds hx hb hc (by omega) hm ?_
  intro aa cap w' h1 h2
  rw [Nat.zero_add] at h1 ⊢
  exact h aa cap w' h1 h2

end Go.Proofs.YtpmoknnhgginjaaDoor.Hu

/- What the program's own functions are to say, as hypotheses; the walk of HuffCodes over them. -/
namespace Go.Proofs.YtpmoknnhgginjaaDoor.Hu
open Go.RowKit
set_option linter.unusedVariables false

/-- A law's end. -/
def Yes (w : World) (e : Ending) (w' : World) : Prop := e = .returned (.bool true) ∧ Below w.heap.size w w'
theorem below_more {B : Nat} {w w1 w2 : World} (h : Below B w w1) (h2 : Below w1.heap.size w1 w2) (hB : B ≤ w.heap.size) : Below B w w2 :=
  h.trans ⟨h2.os, h2.tape, h2.output, h2.size, fun k hk => h2.block k (Nat.lt_of_lt_of_le hk (Nat.le_trans hB h.size))⟩
/-- The codes as whole numbers. -/
def codesZ (zs : List Int) : List Int := (codesOf (nats zs)).map (fun v : Nat => (v : Int))
/-- Codes are told where they should. -/
def CodesSay (w : World) (n : Nat) (zs : List Int) (e : Ending) (w' : World) : Prop :=
  if mayCode zs = true then ∃ aa cap, e = .returned (.tuple #[.slice aa n cap, .bool true]) ∧ Ints w' aa n (codesZ zs) ∧ n ≤ cap ∧ Below w.heap.size w w'
  else ∃ aa cap, e = .returned (.tuple #[.slice aa 0 cap, .bool false]) ∧ Below w.heap.size w w'
def WeightSays : Prop := ∀ w a n c zs, Ints w a n zs → n ≤ 16777216 → Calls Tryd.prog 59 #[.slice a n c] w fun e w' => e = .returned (.tuple #[.int .i64 (weightZ zs : Nat), .bool (lensOk zs)]) ∧ Below w.heap.size w w'
def CodesSays : Prop := ∀ w a n c zs, Ints w a n zs → n ≤ 16777216 → Calls Tryd.prog 62 #[.slice a n c] w (CodesSay w n zs)

theorem codesZ_length (zs : List Int) : (codesZ zs).length = zs.length := by simp [codesZ, codesOf_length, nats_length]
theorem codesOf_le (l : List Nat) (j : Nat) (hl : ∀ s, l.getD s 0 ≤ 16) (hw : Huff.rooms l (Huff.ordered l 16) ≤ 65536) : outOf l (Huff.ordered l 16) j ≤ 65536 := by
  unfold outOf
  split
  · rename_i x hx
    have hm := List.mem_of_find?_eq_some hx
    have := Huff.all_within l x hm
    have h2 := Nat.div_le_self x.2 (Huff.room l x.1)
    omega
  · omega
theorem may_rooms {zs : List Int} (h : mayCode zs = true) : (∀ s, (nats zs).getD s 0 ≤ 16) ∧ Huff.rooms (nats zs) (Huff.ordered (nats zs) 16) ≤ 65536 := by
  unfold mayCode at h
  simp only [Bool.and_eq_true, decide_eq_true_eq] at h
  obtain ⟨hl, hw⟩ := h
  refine ⟨lens_le hl, ?_⟩
  rw [← weightS_rooms _ (lens_le hl)]
  unfold weightZ at hw
  rw [hl] at hw
  exact hw
theorem told_ints {w w' : World} {n : Nat} {zs : List Int} {e : Ending} (h : CodesTold w n (nats zs) e w') (hm : mayCode zs = true) (hn : zs.length = n) : ∃ g, e = .returned (.tuple #[.slice (some ⟨g, 0, none⟩) n n, .bool true]) ∧ Ints w' (some ⟨g, 0, none⟩) n (codesZ zs) ∧ Below w.heap.size w w' := by
  obtain ⟨g, he, hg, hr, hb⟩ := h
  obtain ⟨h1, h2⟩ := may_rooms hm
  refine ⟨g, he, hr.ints (by rw [codesZ_length]; exact hn) ?_ ?_, hb⟩
  · intro z hz
    unfold codesZ codesOf at hz
    simp only [List.map_map, List.mem_map] at hz
    obtain ⟨j, _, rfl⟩ := hz
    have := codesOf_le (nats zs) j h1 h2
    simp only [Function.comp]
    omega
  · intro j hj
    have hjl : j < (codesOf (nats zs)).length := by rw [codesOf_length, nats_length]; omega
    unfold codesZ
    rw [List.getElem?_map, List.getD_eq_getElem?_getD, List.getElem?_eq_getElem hjl]
    rfl

end Go.Proofs.YtpmoknnhgginjaaDoor.Hu

/- The program's look over a list, and its Weight. -/
namespace Go.Proofs.YtpmoknnhgginjaaDoor.Hu
open Go.RowKit
set_option linter.unusedVariables false

def listedS (zs : List Int) (m : Int) : Bool := decide (zs.length ≤ 300 ∧ ∀ z ∈ zs, 0 ≤ z ∧ z ≤ m)
theorem listed_lens (zs : List Int) : listedS zs 16 = lensOk zs := rfl

set_option maxRecDepth 100000 in
set_option maxHeartbeats 800000 in
theorem listed_any (w : World) (a : Option Addr) (n c : Nat) (zs : List Int) (m : Int) (h : Ints w a n zs) (hn : n ≤ 16777216) :
    Calls Tryd.prog 64 #[.slice a n c, .int .i64 m] w fun e w' => e = .returned (.bool (listedS zs m)) ∧ w' = w := by
  have HZ := Lib.hid h
  clear h
  go_enter Tryd.func64, Tryd.ntmps64
  by_cases h3 : 300 < n
  · have hl : listedS zs m = false := by
      unfold listedS
      simp only [decide_eq_false_iff_not]
      have := HZ.out.1
      omega
    have u : decide ((300 : Int) < (n : Int)) = true := by simp; omega
    rw [hl]
    go_wp2
    go_ret
    exact ⟨rfl, rfl⟩
  · have u : decide ((300 : Int) < (n : Int)) = false := by simp; omega
    go_wp2
    go_loopw [12] (fun cnt wr => ∃ i : Nat, i ≤ n ∧ cnt = .int .i64 i ∧ (∀ z ∈ zs.take i, 0 ≤ z ∧ z ≤ m) ∧ wr = w) (fun cnt _ => n - (intOf cnt).toNat)
    case atStart => exact ⟨0, Nat.zero_le _, rfl, by intro z hz; simp at hz, rfl⟩
    case round =>
      obtain ⟨i, hi, rfl, hok, rfl⟩ := hrel
      by_cases hlt : i < n
      · obtain ⟨b, off, z, rfl, hz, hzb, hcell⟩ := HZ.out.at hlt
        have hmem : z ∈ zs := List.mem_of_getElem? hz
        by_cases hbad : 0 ≤ z ∧ z ≤ m
        · have HN := Lib.hid (take_more hz)
          have HOK := Lib.hid hok
          have HB := Lib.hid hbad
          have u1 : decide (z < 0) = false := by simp; omega
          have u2 : decide (m < z) = false := by simp; omega
          clear hok hz hmem hbad
          go_wp2_with fail
          go_roundw
          case rel =>
            refine ⟨i + 1, by omega, by go_num, ?_, trivial⟩
            intro z' hz
            rw [HN.out, List.mem_append, List.mem_singleton] at hz
            rcases hz with hz | rfl
            · exact HOK.out z' hz
            · exact HB.out
          case measure => simp [intOf]; omega
        · have hl : listedS zs m = false := by
            unfold listedS
            simp only [decide_eq_false_iff_not]
            intro hh
            exact hbad (hh.2 z hmem)
          have HL := Lib.hid hl
          clear hl hz hmem hok
          by_cases hz0 : z < 0
          · have u1 : decide (z < 0) = true := by simpa using hz0
            go_wp2_with fail
            go_ret
            exact ⟨by rw [HL.out]; rfl, rfl⟩
          · have u1 : decide (z < 0) = false := by simpa using hz0
            have u2 : decide (m < z) = true := by simp; omega
            clear hbad
            go_wp2_with fail
            go_ret
            exact ⟨by rw [HL.out]; rfl, rfl⟩
      · obtain rfl : i = n := by omega
        have e : zs.take i = zs := List.take_of_length_le (by rw [HZ.out.1]; exact Nat.le_refl _)
        rw [e] at hok
        have hl : listedS zs m = true := by
          unfold listedS
          simp only [decide_eq_true_eq]
          exact ⟨by rw [HZ.out.1]; omega, hok⟩
        have HL := Lib.hid hl
        clear hl hok
        go_wp2
        go_ret
        exact ⟨by rw [HL.out]; rfl, rfl⟩

set_option maxRecDepth 100000 in
set_option maxHeartbeats 800000 in
theorem weight_says : WeightSays := by
  intro w a n c zs h hn
  have HZ := Lib.hid h
  have CL := listed_any w a n c zs 16 h hn
  rw [listed_lens] at CL
  have HD := Lib.hid (Below.refl w.heap.size w)
  clear h
  cases hl : lensOk zs
  · rw [hl] at CL
    have hw : weightZ zs = 0 := by unfold weightZ; rw [hl]; rfl
    rw [hw]
    go_enter Tryd.func59, Tryd.ntmps59
    go_wp2_with (go_at_call 64; refine CL.mono ?_; rintro e w' ⟨rfl, hw⟩; obtain rfl := hw.symm)
    go_ret2
    exact ⟨rfl, HD.out⟩
  · rw [hl] at CL
    have hw : weightZ zs = weightS (nats zs) := by unfold weightZ; rw [hl]; rfl
    rw [hw]
    have HL := Lib.hid hl
    have hlen : n ≤ 300 := by
      have := HZ.out.1
      unfold lensOk at hl
      simp only [decide_eq_true_eq] at hl
      omega
    clear hl hw
    go_enter Tryd.func59, Tryd.ntmps59
    go_wp2_with (go_at_call 64; refine CL.mono ?_; rintro e w' ⟨rfl, hw⟩; obtain rfl := hw.symm)
    clear CL
    go_loopw [4, 12] (fun s cnt wr => ∃ i : Nat, i ≤ n ∧ cnt = .int .i64 i ∧ s = .int .i64 (weightS (nats (zs.take i)) : Nat) ∧ wr = w) (fun _ cnt _ => n - (intOf cnt).toNat)
    case atStart => exact ⟨0, Nat.zero_le _, rfl, rfl, rfl⟩
    case round =>
      obtain ⟨i, hi, rfl, rfl, rfl⟩ := hrel
      by_cases hlt : i < n
      · obtain ⟨b, off, z, rfl, hz, hzb, hcell⟩ := HZ.out.at hlt
        have hmem : z ∈ zs := List.mem_of_getElem? hz
        have hbad : 0 ≤ z ∧ z ≤ 16 := by
          have hh := HL.out
          unfold lensOk at hh
          simp only [decide_eq_true_eq] at hh
          exact hh.2 z hmem
        have HN := Lib.hid (take_more hz)
        have hsl := weightS_le (nats (zs.take i))
        have hll : (nats (zs.take i)).length ≤ 300 := by simp [nats]; omega
        by_cases hm : z = 0
        · subst hm
          clear hz hbad hmem hzb
          generalize hS : weightS (nats (zs.take i)) = s at *
          have HS := Lib.hid hS
          clear hS
          go_wp2_with fail
          go_roundw
          case rel =>
            exact ⟨i + 1, by omega, by go_num, by rw [HN.out, nats_snoc, weightS_snoc, HS.out]; simp [wt], trivial⟩
          case measure => simp [intOf]; omega
        · obtain ⟨m, rfl⟩ := Int.eq_ofNat_of_zero_le hbad.1
          have hm16 : m ≤ 16 := by omega
          have hm0 : ¬ m = 0 := by omega
          clear hz hbad hmem
          have u3 : decide ((m : Int) = 0) = false := by simp; omega
          have u4 : ((m : Int) == 0) = false := by simp; omega
          have u5 : ((m : Int) != 0) = true := by simp; omega
          have u6 : decide ((m : Int) < 0) = false := by simp
          have u7 : decide (¬ (m : Int) = 0) = true := by simp; omega
          have hsh := shr_wt m (by omega) hm16
          have hwl := wt_le m
          generalize hS : weightS (nats (zs.take i)) = s at *
          generalize hW : wt m = x at *
          have HS := Lib.hid (And.intro hS hW)
          clear hS hW
          go_wp2_with fail
          go_roundw
          case rel =>
            refine ⟨i + 1, by omega, by go_num, by rw [HN.out, nats_snoc, weightS_snoc, HS.out.1, Int.toNat_natCast, HS.out.2]; simp, trivial⟩
          case measure => simp [intOf]; omega
      · obtain rfl : i = n := by omega
        have e : zs.take i = zs := List.take_of_length_le (by rw [HZ.out.1]; exact Nat.le_refl _)
        rw [e]
        generalize hS : weightS (nats zs) = s at *
        have HS := Lib.hid hS
        clear hS
        go_wp2
        go_ret2
        exact ⟨by rw [HS.out]; rfl, HD.out⟩
end Go.Proofs.YtpmoknnhgginjaaDoor.Hu

/- Two numbers compared; the first that is not nought; the closure that tells which symbol comes first. -/
namespace Go.Proofs.YtpmoknnhgginjaaDoor.Hu
open Go.RowKit
set_option linter.unusedVariables false

set_option maxRecDepth 100000 in
set_option maxHeartbeats 1000000 in
theorem compare_any (x y : Int) (w : World) :
    Calls Tryd.prog 69 #[.int .i64 x, .int .i64 y] w fun e w' => e = .returned (.int .i64 (Lib.compareInt x y)) ∧ w' = w := by
  go_enter Tryd.func69, Tryd.ntmps69
  go_wp2
  all_goals (go_ret; refine ⟨?_, rfl⟩; unfold Lib.compareInt; (repeat' split) <;> first | rfl | (exfalso; omega))

def orS (p q : Int) : Int := if p = 0 then q else p

set_option maxRecDepth 100000 in
set_option maxHeartbeats 1000000 in
theorem or_any (w : World) (b o : Nat) (p q : Int) (c : Nat) (hp : w.cell? ⟨b, o, none⟩ = some (.int .i64 p)) (hq : w.cell? ⟨b, o + 1, none⟩ = some (.int .i64 q)) :
    Calls Tryd.prog 68 #[.slice (some ⟨b, o, none⟩) 2 c] w fun e w' => e = .returned (.int .i64 (orS p q)) ∧ w' = w := by
  have HP := Lib.hid hp
  have HQ := Lib.hid hq
  clear hp hq
  go_enter Tryd.func68, Tryd.ntmps68
  go_wp2
  go_loopw [8] (fun cnt wr => ∃ i : Nat, i ≤ 2 ∧ cnt = .int .i64 i ∧ (1 ≤ i → p = 0) ∧ (2 ≤ i → q = 0) ∧ wr = w) (fun cnt _ => 2 - (intOf cnt).toNat)
  case atStart => exact ⟨0, by omega, rfl, by omega, by omega, rfl⟩
  case round =>
    obtain ⟨i, hi, rfl, h1, h2, rfl⟩ := hrel
    match i, hi with
    | 0, _ =>
      have hc := HP.out
      by_cases hp : p = 0
      · subst hp
        go_wp2_with fail
        go_roundw
        case rel => exact ⟨1, by omega, by go_num, fun _ => trivial, fun h => absurd h (by omega), trivial⟩
        case measure => simp [intOf]
      · have u1 : decide (p = 0) = false := by simpa using hp
        have u2 : (p == 0) = false := by simpa using hp
        have u3 : (p != 0) = true := by simpa using hp
        have u4 : decide (¬ p = 0) = true := by simpa using hp
        go_wp2_with fail
        go_ret
        exact ⟨by unfold orS; rw [if_neg hp]; rfl, rfl⟩
    | 1, _ =>
      have hc := HQ.out
      have hp0 := Lib.hid (h1 (by omega))
      clear h1 h2
      by_cases hp : q = 0
      · subst hp
        go_wp2_with fail
        go_roundw
        case rel => exact ⟨2, by omega, by go_num, fun _ => hp0.out, fun _ => trivial, trivial⟩
        case measure => simp [intOf]
      · have u1 : decide (q = 0) = false := by simpa using hp
        have u2 : (q == 0) = false := by simpa using hp
        have u3 : (q != 0) = true := by simpa using hp
        have u4 : decide (¬ q = 0) = true := by simpa using hp
        go_wp2_with fail
        go_ret
        exact ⟨by unfold orS; rw [if_pos hp0.out]; rfl, rfl⟩
    | 2, _ =>
      have hp0 := Lib.hid (h1 (by omega))
      have hq0 := Lib.hid (h2 (by omega))
      clear h1 h2
      go_wp2_with fail
      go_ret
      exact ⟨by unfold orS; rw [if_pos hp0.out, hq0.out]; rfl, rfl⟩

/-- Which of two symbols comes first. -/
def cfZ (zs : List Int) (x y : Nat) : Int := orS (Lib.compareInt (zs.getD x 0) (zs.getD y 0)) (Lib.compareInt x y)

set_option maxRecDepth 100000 in
set_option maxHeartbeats 1600000 in
set_option maxRecDepth 100000 in
theorem closure_any (w : World) (B : Nat) (a : Option Addr) (n c : Nat) (zs : List Int) (x y : Nat) (hx : x < n) (hy : y < n)
    (hbox : w.cell? ⟨B, 0, none⟩ = some (.slice a n c)) (hz : Ints w a n zs) :
    Calls Tryd.prog 67 #[.int .i64 x, .int .i64 y, .pointer (some ⟨B, 0, none⟩)] w fun e w' => e = .returned (.int .i64 (cfZ zs x y)) ∧ ∃ q os, w' = Go.Sort.grow (w.drewN q) os := by
  obtain ⟨b, off, z1, rfl, hz1, _, hc1⟩ := hz.at hx
  obtain ⟨b2, off2, z2, he, hz2, _, hc2⟩ := hz.at hy
  simp only [Option.some.injEq, Addr.mk.injEq] at he
  obtain ⟨rfl, rfl, -⟩ := he
  have e1 : zs.getD x 0 = z1 := by rw [List.getD_eq_getElem?_getD, hz1]; rfl
  have e2 : zs.getD y 0 = z2 := by rw [List.getD_eq_getElem?_getD, hz2]; rfl
  have CA := Lib.hid (fun W => compare_any z1 z2 W)
  have CB := Lib.hid (fun W => compare_any x y W)
  unfold cfZ
  rw [e1, e2]
  generalize Lib.compareInt z1 z2 = p at *
  generalize Lib.compareInt x y = q at *
  clear hz hz1 hz2 e1 e2
  have CO := Lib.hid (or_any (w.drew.alloc (.cells #[.int .i64 p, .int .i64 q] 3)) w.heap.size 0 p q 2 (by rw [show w.heap.size = w.drew.heap.size from rfl, World.cell?_alloc_mark]; rfl) (by rw [show w.heap.size = w.drew.heap.size from rfl, World.cell?_alloc_mark]; rfl))
  go_enter Tryd.func67, Tryd.ntmps67
  go_wp2_with fail
  go_still_tail 12, (by kernel_rfl)
  still_call (CA.out _)
  repeat still_step
  still_call (CB.out _)
  repeat still_step
  refine wpStill_nil ?_
  change wpList _ _ _ _ _ w.drew
  clear hbox hc1 hc2 CA CB
  go_wp2_with fail
  refine CO.out.mono ?_
  rintro e w' ⟨rfl, hw⟩
  obtain rfl := hw.symm
  go_wp2_with fail
  go_ret
  exact ⟨rfl, 1, #[.cells #[.int .i64 p, .int .i64 q] 3], (Go.Sort.alloc_eq_grow w.drew (.cells #[.int .i64 p, .int .i64 q] 3) :)⟩
end Go.Proofs.YtpmoknnhgginjaaDoor.Hu

/- Two rising rows merged, how many of the first things are of the first row; the packages' rows made so; how often each symbol is bought. No program in it. -/
namespace Go.Proofs.YtpmoknnhgginjaaDoor.Hu.Huff
set_option linter.unusedVariables false

/-- Two rows as one, of the first row first. -/
def mix {α : Type} (f : α → Nat) : List α → List α → List α
  | [], bs => bs
  | as1, [] => as1
  | a :: as1, b :: bs => if f a ≤ f b then a :: mix f as1 (b :: bs) else b :: mix f (a :: as1) bs
termination_by as1 bs => as1.length + bs.length
/-- How many of the first t things are of the first row. -/
def cnt : List Nat → List Nat → Nat → Nat
  | _, _, 0 => 0
  | [], _, _ + 1 => 0
  | _ :: as1, [], t + 1 => cnt as1 [] t + 1
  | a :: as1, b :: bs, t + 1 => if a ≤ b then cnt as1 (b :: bs) t + 1 else cnt (a :: as1) bs t
termination_by _ _ t => t

theorem mix_nil {α : Type} (f : α → Nat) (as1 : List α) : mix f as1 [] = as1 := by cases as1 <;> simp [mix]
theorem mix_nil_left {α : Type} (f : α → Nat) (bs : List α) : mix f [] bs = bs := by simp [mix]
theorem mix_cons {α : Type} (f : α → Nat) (a : α) (as1 : List α) (b : α) (bs : List α) : mix f (a :: as1) (b :: bs) = if f a ≤ f b then a :: mix f as1 (b :: bs) else b :: mix f (a :: as1) bs := by rw [mix]
theorem cnt_zero (as1 bs : List Nat) : cnt as1 bs 0 = 0 := by cases as1 <;> cases bs <;> simp [cnt]
theorem cnt_nil (bs : List Nat) (t : Nat) : cnt [] bs t = 0 := by cases t <;> simp [cnt]
theorem cnt_one (a : Nat) (as1 : List Nat) (t : Nat) : cnt (a :: as1) [] (t + 1) = cnt as1 [] t + 1 := by rw [cnt]
theorem cnt_cons (a : Nat) (as1 : List Nat) (b : Nat) (bs : List Nat) (t : Nat) : cnt (a :: as1) (b :: bs) (t + 1) = if a ≤ b then cnt as1 (b :: bs) t + 1 else cnt (a :: as1) bs t := by rw [cnt]

theorem mix_map {α : Type} (f : α → Nat) (as1 bs : List α) : (mix f as1 bs).map f = mix id (as1.map f) (bs.map f) := by
  match as1, bs with
  | [], bs => simp [mix_nil_left]
  | a :: as1, [] => simp [mix_nil]
  | a :: as1, b :: bs =>
    rw [mix_cons, List.map_cons, List.map_cons, mix_cons]
    simp only [id]
    by_cases h : f a ≤ f b
    · rw [if_pos h, if_pos h, List.map_cons, mix_map f as1 (b :: bs), List.map_cons]
    · rw [if_neg h, if_neg h, List.map_cons, mix_map f (a :: as1) bs, List.map_cons]
termination_by as1.length + bs.length
theorem mix_perm {α : Type} (f : α → Nat) (as1 bs : List α) : (mix f as1 bs).Perm (as1 ++ bs) := by
  match as1, bs with
  | [], bs => rw [mix_nil_left]; exact List.Perm.refl _
  | a :: as1, [] => rw [mix_nil, List.append_nil]
  | a :: as1, b :: bs =>
    rw [mix_cons]
    by_cases h : f a ≤ f b
    · rw [if_pos h]
      exact (List.perm_cons a).2 (mix_perm f as1 (b :: bs))
    · rw [if_neg h]
      exact ((List.perm_cons b).2 (mix_perm f (a :: as1) bs)).trans List.perm_middle.symm
termination_by as1.length + bs.length
theorem mix_length {α : Type} (f : α → Nat) (as1 bs : List α) : (mix f as1 bs).length = as1.length + bs.length := by rw [(mix_perm f as1 bs).length_eq, List.length_append]
theorem mix_sorted (as1 bs : List Nat) (ha : as1.Pairwise (· ≤ ·)) (hb : bs.Pairwise (· ≤ ·)) : (mix id as1 bs).Pairwise (· ≤ ·) := by
  match as1, bs with
  | [], bs => rw [mix_nil_left]; exact hb
  | a :: as1, [] => rw [mix_nil]; exact ha
  | a :: as1, b :: bs =>
    rw [List.pairwise_cons] at ha hb
    rw [mix_cons]
    simp only [id]
    by_cases h : a ≤ b
    · rw [if_pos h, List.pairwise_cons]
      refine ⟨fun x hx => ?_, mix_sorted as1 (b :: bs) ha.2 (List.pairwise_cons.2 hb)⟩
      have := (mix_perm id as1 (b :: bs)).subset hx
      simp only [List.mem_append, List.mem_cons] at this
      rcases this with h1 | rfl | h1
      · exact ha.1 x h1
      · exact h
      · exact Nat.le_trans h (hb.1 x h1)
    · rw [if_neg h, List.pairwise_cons]
      refine ⟨fun x hx => ?_, mix_sorted (a :: as1) bs (List.pairwise_cons.2 ha) hb.2⟩
      have := (mix_perm id (a :: as1) bs).subset hx
      simp only [List.mem_append, List.mem_cons] at this
      rcases this with (rfl | h1) | h1
      · omega
      · have := ha.1 x h1; omega
      · exact hb.1 x h1
termination_by as1.length + bs.length

/-- The first t things: so many of either row; and what is left is the rest of both, merged. -/
theorem mix_parts {α : Type} (f : α → Nat) (as1 bs : List α) (t : Nat) (ht : t ≤ as1.length + bs.length) :
    cnt (as1.map f) (bs.map f) t ≤ as1.length ∧ cnt (as1.map f) (bs.map f) t ≤ t ∧ t - cnt (as1.map f) (bs.map f) t ≤ bs.length ∧
      ((mix f as1 bs).take t).Perm (as1.take (cnt (as1.map f) (bs.map f) t) ++ bs.take (t - cnt (as1.map f) (bs.map f) t)) ∧
      (mix f as1 bs).drop t = mix f (as1.drop (cnt (as1.map f) (bs.map f) t)) (bs.drop (t - cnt (as1.map f) (bs.map f) t)) ∧
      (∀ s, cnt (as1.map f) (bs.map f) (t + s) = cnt (as1.map f) (bs.map f) t + cnt ((as1.drop (cnt (as1.map f) (bs.map f) t)).map f) ((bs.drop (t - cnt (as1.map f) (bs.map f) t)).map f) s) := by
  match t, as1, bs with
  | 0, as1, bs => simp [cnt_zero]
  | t + 1, [], bs => simp [cnt_nil, mix_nil_left] at ht ⊢; exact ht
  | t + 1, a :: as1, [] =>
    obtain ⟨h1, h2, h3, h4, h5, h6⟩ := mix_parts f as1 [] t (by simp at ht ⊢; omega)
    simp only [List.map_cons, List.map_nil, cnt_one, mix_nil] at *
    refine ⟨by simp only [List.length_cons]; omega, by omega, by simp only [List.length_nil] at *; omega, ?_, ?_, ?_⟩
    · rw [List.take_succ_cons, List.take_succ_cons, List.cons_append, show t + 1 - (cnt (as1.map f) [] t + 1) = t - cnt (as1.map f) [] t by omega]
      exact (List.perm_cons a).2 h4
    · rw [List.drop_succ_cons, List.drop_succ_cons, show t + 1 - (cnt (as1.map f) [] t + 1) = t - cnt (as1.map f) [] t by omega]
      exact h5
    · intro s
      rw [show t + 1 + s = (t + s) + 1 by omega, cnt_one, List.drop_succ_cons, h6 s, show t + 1 - (cnt (as1.map f) [] t + 1) = t - cnt (as1.map f) [] t by omega]
      omega
  | t + 1, a :: as1, b :: bs =>
    simp only [List.map_cons, cnt_cons, mix_cons]
    by_cases h : f a ≤ f b
    · obtain ⟨h1, h2, h3, h4, h5, h6⟩ := mix_parts f as1 (b :: bs) t (by simp at ht ⊢; omega)
      simp only [if_pos h]
      simp only [List.map_cons] at h1 h2 h3 h4 h5 h6
      have e : t + 1 - (cnt (as1.map f) (f b :: bs.map f) t + 1) = t - cnt (as1.map f) (f b :: bs.map f) t := by omega
      refine ⟨by simp only [List.length_cons]; omega, by omega, by rw [e]; exact h3, ?_, ?_, ?_⟩
      · rw [List.take_succ_cons, List.take_succ_cons, List.cons_append, e]
        exact (List.perm_cons a).2 h4
      · rw [List.drop_succ_cons, List.drop_succ_cons, e]
        exact h5
      · intro s
        rw [show t + 1 + s = (t + s) + 1 by omega, cnt_cons, if_pos h, List.drop_succ_cons, h6 s, e]
        omega
    · obtain ⟨h1, h2, h3, h4, h5, h6⟩ := mix_parts f (a :: as1) bs t (by simp at ht ⊢; omega)
      simp only [if_neg h]
      simp only [List.map_cons] at h1 h2 h3 h4 h5 h6
      have e : t + 1 - cnt (f a :: as1.map f) (bs.map f) t = (t - cnt (f a :: as1.map f) (bs.map f) t) + 1 := by omega
      refine ⟨h1, by omega, by rw [e]; simp only [List.length_cons]; omega, ?_, ?_, ?_⟩
      · rw [List.take_succ_cons, e, List.take_succ_cons]
        exact ((List.perm_cons b).2 h4).trans List.perm_middle.symm
      · rw [List.drop_succ_cons, e, List.drop_succ_cons]
        exact h5
      · intro s
        rw [show t + 1 + s = (t + s) + 1 by omega, cnt_cons, if_neg h, h6 s, e, List.drop_succ_cons]
termination_by t

/-- The next thing. -/
theorem mix_next (as1 bs : List Nat) (t : Nat) (ht : t < as1.length + bs.length) :
    let i := cnt as1 bs t
    i ≤ t ∧ i ≤ as1.length ∧ t - i ≤ bs.length ∧
      ((t - i = bs.length ∨ (i < as1.length ∧ as1.getD i 0 ≤ bs.getD (t - i) 0)) → i < as1.length ∧ cnt as1 bs (t + 1) = i + 1 ∧ (mix id as1 bs)[t]? = some (as1.getD i 0)) ∧
      (¬ (t - i = bs.length ∨ (i < as1.length ∧ as1.getD i 0 ≤ bs.getD (t - i) 0)) → t - i < bs.length ∧ cnt as1 bs (t + 1) = i ∧ (mix id as1 bs)[t]? = some (bs.getD (t - i) 0)) := by
  obtain ⟨h1, h2, h3, h4, h5, h6⟩ := mix_parts id as1 bs t (by omega)
  simp only [List.map_id] at h1 h2 h3 h4 h5 h6
  intro i
  change i ≤ _ at h1
  change i ≤ _ at h2
  change t - i ≤ _ at h3
  change _ = mix id (as1.drop i) (bs.drop (t - i)) at h5
  have h7 : cnt as1 bs (t + 1) = i + cnt (as1.drop i) (bs.drop (t - i)) 1 := h6 1
  have h8 : (mix id as1 bs)[t]? = (mix id (as1.drop i) (bs.drop (t - i)))[0]? := by rw [← h5, List.getElem?_drop]; rfl
  clear_value i
  refine ⟨h2, h1, h3, fun h => ?_, fun h => ?_⟩
  · have hi : i < as1.length := by
      rcases h with h | h
      · omega
      · exact h.1
    have ha : as1.drop i = as1.getD i 0 :: as1.drop (i + 1) := by
      rw [List.drop_eq_getElem_cons hi, List.getD_eq_getElem?_getD, List.getElem?_eq_getElem hi]; rfl
    refine ⟨hi, ?_⟩
    rw [h7, h8, ha]
    by_cases hb : t - i = bs.length
    · rw [hb, List.drop_length, mix_nil, cnt_one, cnt_zero]
      exact ⟨by omega, rfl⟩
    · have hbl : t - i < bs.length := by omega
      have hbd : bs.drop (t - i) = bs.getD (t - i) 0 :: bs.drop (t - i + 1) := by
        rw [List.drop_eq_getElem_cons hbl, List.getD_eq_getElem?_getD, List.getElem?_eq_getElem hbl]; rfl
      have hle : as1.getD i 0 ≤ bs.getD (t - i) 0 := by
        rcases h with h | h
        · exact absurd h hb
        · exact h.2
      rw [hbd, mix_cons, cnt_cons]
      simp only [id, if_pos hle, cnt_zero]
      exact ⟨trivial, rfl⟩
  · have hbl : t - i < bs.length := by
      have : ¬ t - i = bs.length := fun e => h (Or.inl e)
      omega
    have hbd : bs.drop (t - i) = bs.getD (t - i) 0 :: bs.drop (t - i + 1) := by
      rw [List.drop_eq_getElem_cons hbl, List.getD_eq_getElem?_getD, List.getElem?_eq_getElem hbl]; rfl
    refine ⟨hbl, ?_⟩
    rw [h7, h8, hbd]
    by_cases hi : i < as1.length
    · have ha : as1.drop i = as1.getD i 0 :: as1.drop (i + 1) := by
        rw [List.drop_eq_getElem_cons hi, List.getD_eq_getElem?_getD, List.getElem?_eq_getElem hi]; rfl
      have hle : ¬ as1.getD i 0 ≤ bs.getD (t - i) 0 := fun e => h (Or.inr ⟨hi, e⟩)
      rw [ha, mix_cons, cnt_cons]
      simp only [id, if_neg hle, cnt_zero]
      exact ⟨by omega, rfl⟩
    · rw [List.drop_eq_nil_of_le (by omega), mix_nil_left, cnt_nil]
      exact ⟨by omega, rfl⟩

theorem pairs_rise (a b : Nat) (l : List Nat) (k1 : ∀ y ∈ l, a ≤ y) (k2 : ∀ y ∈ l, b ≤ y) (x : Nat) (hx : x ∈ pairs l) : a + b ≤ x := by
  match l with
  | [] => simp [pairs] at hx
  | [_] => simp [pairs] at hx
  | c :: d :: l =>
    rw [pairs, List.mem_cons] at hx
    rcases hx with rfl | hx
    · have := k1 c (by simp); have := k2 d (by simp); omega
    · exact pairs_rise a b l (fun y hy => k1 y (by simp [hy])) (fun y hy => k2 y (by simp [hy])) x hx
theorem pairs_sorted (l : List Nat) (h : l.Pairwise (· ≤ ·)) : (pairs l).Pairwise (· ≤ ·) := by
  match l with
  | [] => simp [pairs]
  | [_] => simp [pairs]
  | a :: b :: l =>
    simp only [List.pairwise_cons] at h
    obtain ⟨h1, h2, h3⟩ := h
    rw [pairs, List.pairwise_cons]
    exact ⟨fun x hx => pairs_rise a b l (fun y hy => h1 y (by simp [hy])) (fun y hy => h2 y hy) x hx, pairs_sorted l h3⟩

/-- The rows of prices. -/
def rowP (ws : List Nat) : Nat → List Nat
  | 0 => []
  | j + 1 => mix id ws (pairs (rowP ws j))
/-- The rows of things. -/
def rowI (ws : List Nat) : Nat → List It
  | 0 => []
  | j + 1 => mix (weightOf ws) (coinsOf ws.length) (joinTwo (rowI ws j))
theorem rowI_prices (ws : List Nat) (j : Nat) : (rowI ws j).map (weightOf ws) = rowP ws j := by
  induction j with
  | zero => rfl
  | succ j ih => rw [rowI, rowP, mix_map, coins_weights, ← pairs_join, ih]
theorem rowP_sorted (ws : List Nat) (h : ws.Pairwise (· ≤ ·)) (j : Nat) : (rowP ws j).Pairwise (· ≤ ·) := by
  induction j with
  | zero => exact List.Pairwise.nil
  | succ j ih => exact mix_sorted _ _ h (pairs_sorted _ ih)
theorem rowI_rows (ws : List Nat) : RowsOf ws.length (rowI ws) := ⟨rfl, fun j => mix_perm _ _ _⟩
theorem rowI_length (ws : List Nat) (j : Nat) : (rowI ws j).length = (rowP ws j).length := by rw [← rowI_prices, List.length_map]

/-- How many of the symbols have a bit at each length, the shortest first. -/
def bought (ws : List Nat) : Nat → Nat → List Nat
  | 0, _ => []
  | j + 1, t => cnt ws (pairs (rowP ws j)) t :: bought ws j (2 * (t - cnt ws (pairs (rowP ws j)) t))

theorem flat_pairs (L : List It) (m : Nat) (h : 2 * m ≤ L.length) : flat ((joinTwo L).take m) = flat (L.take (2 * m)) := by
  match L, m with
  | _, 0 => simp [flat]
  | [], m + 1 => simp at h
  | [_], m + 1 => simp at h; omega
  | a :: b :: L, m + 1 =>
    have ih := flat_pairs L m (by simp at h; omega)
    rw [joinTwo, List.take_succ_cons, show 2 * (m + 1) = 2 * m + 1 + 1 by omega, List.take_succ_cons, List.take_succ_cons]
    unfold flat at *
    simp only [List.flatten_cons, ih, List.append_assoc]
theorem joinTwo_length (L : List It) : (joinTwo L).length = L.length / 2 := by
  match L with
  | [] => simp [joinTwo]
  | [_] => simp [joinTwo]
  | a :: b :: L =>
    have ih := joinTwo_length L
    simp only [joinTwo, List.length_cons, ih]
    omega
theorem coins_take (n c : Nat) (h : c ≤ n) : flat ((coinsOf n).take c) = List.range c := by
  have e : (coinsOf n).take c = coinsOf c := by
    unfold coinsOf
    rw [← List.map_take]
    congr 1
    rw [List.take_range]
    congr 1
    omega
  rw [e, flat_coins]
theorem count_range (c s : Nat) : (List.range c).count s = if s < c then 1 else 0 := by
  induction c with
  | zero => simp
  | succ c ih =>
    rw [List.range_succ, List.count_append, ih, List.count_singleton]
    by_cases h : s < c
    · have h3 : s < c + 1 := by omega
      have h4 : (c == s) = false := by simp; omega
      simp [h, h3, h4]
    · by_cases h2 : s = c
      · subst h2; simp
      · have h3 : ¬ s < c + 1 := by omega
        have h4 : (c == s) = false := by simp; omega
        simp [h, h3, h4]

/-- At each level: what is bought is within what there is. -/
theorem bought_at (ws : List Nat) (j t : Nat) (ht : t ≤ (rowP ws (j + 1)).length) :
    cnt ws (pairs (rowP ws j)) t ≤ ws.length ∧ cnt ws (pairs (rowP ws j)) t ≤ t ∧ 2 * (t - cnt ws (pairs (rowP ws j)) t) ≤ (rowP ws j).length := by
  have hl : t ≤ ws.length + (pairs (rowP ws j)).length := by rw [rowP, mix_length] at ht; exact ht
  obtain ⟨h1, h2, h3, -⟩ := mix_parts id ws (pairs (rowP ws j)) t hl
  simp only [List.map_id] at h1 h2 h3
  rw [pairs_length] at h3
  exact ⟨h1, h2, by omega⟩

theorem bought_counts (ws : List Nat) (j t s : Nat) (ht : t ≤ (rowP ws j).length) : (flat ((rowI ws j).take t)).count s = ((bought ws j t).filter (fun c => decide (s < c))).length := by
  induction j generalizing t with
  | zero => simp [rowI, bought, flat]
  | succ j ih =>
    obtain ⟨k1, k2, k3⟩ := bought_at ws j t ht
    have hl : t ≤ (coinsOf ws.length).length + (joinTwo (rowI ws j)).length := by
      rw [← rowI_length, rowI, mix_length] at ht; exact ht
    obtain ⟨-, -, -, h4, -, -⟩ := mix_parts (weightOf ws) (coinsOf ws.length) (joinTwo (rowI ws j)) t hl
    rw [coins_weights, ← pairs_join, rowI_prices] at h4
    rw [rowI, bought]
    generalize hc : cnt ws (pairs (rowP ws j)) t = c at *
    rw [count_perm (flat_perm h4), flat_append, List.count_append, coins_take _ _ k1, count_range, flat_pairs _ _ (by rw [rowI_length]; exact k3), ih _ k3, List.filter_cons]
    by_cases h : s < c
    · rw [if_pos h, if_pos (by simpa using h), List.length_cons]; omega
    · rw [if_neg h, if_neg (by simpa using h)]; omega

/-- THE LENGTHS THAT ARE BOUGHT COST LEAST. -/
theorem bought_best (ws : List Nat) (h2 : 2 ≤ ws.length) (hs : ws.Pairwise (· ≤ ·)) (most : Nat) (h1 : 1 ≤ most) (hn : ws.length ≤ 2 ^ most) :
    2 * ws.length - 2 ≤ (rowP ws most).length ∧
      May most ws ((List.range ws.length).map (fun s => ((bought ws most (2 * ws.length - 2)).filter (fun c => decide (s < c))).length)) ∧
      ∀ es, May most ws es → dot ws ((List.range ws.length).map (fun s => ((bought ws most (2 * ws.length - 2)).filter (fun c => decide (s < c))).length)) ≤ dot ws es := by
  have hr : ∀ j, ((rowI ws (j + 1)).map (weightOf ws)).Pairwise (· ≤ ·) := fun j => by rw [rowI_prices]; exact rowP_sorted ws hs _
  have B := fun es h => package_best ws h2 (rowI ws) (rowI_rows ws) hr most es h
  have b0 := B _ (may_some most ws.length ws rfl hn h1)
  have hl : 2 * ws.length - 2 ≤ (rowP ws most).length := by rw [← rowI_length]; exact b0.1
  have e : countsOf ws.length (flat ((rowI ws most).take (2 * ws.length - 2))) = (List.range ws.length).map (fun s => ((bought ws most (2 * ws.length - 2)).filter (fun c => decide (s < c))).length) := by
    unfold countsOf
    apply List.map_congr_left
    intro s _
    exact bought_counts ws most _ s hl
  rw [← e]
  exact ⟨hl, b0.2.1, fun es h => (B es h).2.2⟩
theorem bought_length (ws : List Nat) (j t : Nat) : (bought ws j t).length = j := by
  induction j generalizing t with
  | zero => rfl
  | succ j ih => rw [bought, List.length_cons, ih]
end Go.Proofs.YtpmoknnhgginjaaDoor.Hu.Huff

/- What Lengths is to say; the document's examples. -/
namespace Go.Proofs.YtpmoknnhgginjaaDoor.Hu
open Go.RowKit
set_option linter.unusedVariables false

/-- The symbols whose count is above 0; their counts; their lengths. -/
def posI (zs : List Int) : List Nat := (List.range zs.length).filter (fun i => decide (0 < zs.getD i 0))
def wsOf (zs : List Int) : List Nat := (posI zs).map (fun i => (zs.getD i 0).toNat)
def esOf (zs ls : List Int) : List Nat := (posI zs).map (fun i => (ls.getD i 0).toNat)
/-- Lengths that cost least. -/
structure Best (zs ls : List Int) (most : Nat) : Prop where
  len : ls.length = zs.length
  zero : ∀ i, i < zs.length → zs.getD i 0 = 0 → ls.getD i 0 = 0
  pos : ∀ i, i < zs.length → 0 < zs.getD i 0 → 1 ≤ ls.getD i 0 ∧ ls.getD i 0 ≤ most
  may : Huff.May most (wsOf zs) (esOf zs ls)
  best : ∀ fs, Huff.May most (wsOf zs) fs → Huff.dot (wsOf zs) (esOf zs ls) ≤ Huff.dot (wsOf zs) fs
/-- Counts that have lengths. -/
def good (zs : List Int) (most : Int) : Bool := decide (1 ≤ most ∧ most ≤ 16 ∧ zs.length ≤ 300 ∧ (∀ z ∈ zs, 0 ≤ z ∧ z ≤ 1099511627776) ∧ (posI zs).length ≤ 2 ^ most.toNat)
def LengthsSay (w : World) (n : Nat) (zs : List Int) (most : Int) (e : Ending) (w' : World) : Prop :=
  if good zs most = true then ∃ aa cap ls, e = .returned (.tuple #[.slice aa n cap, .bool true]) ∧ Ints w' aa n ls ∧ n ≤ cap ∧ Best zs ls most.toNat ∧ Below w.heap.size w w'
  else ∃ aa cap, e = .returned (.tuple #[.slice aa 0 cap, .bool false]) ∧ Below w.heap.size w w'
theorem ex_codes : codesZ [1, 3, 3, 0, 2] = [0, 6, 7, 0, 2] := by decide +kernel
theorem ex_may : mayCode [1, 3, 3, 0, 2] = true := by decide +kernel
theorem ex_good : good [5, 1, 1, 0, 1] 3 = true := by decide +kernel
theorem ex_ws : wsOf [5, 1, 1, 0, 1] = [5, 1, 1, 1] := by decide +kernel
theorem ex_es (a b c d e : Int) : esOf [5, 1, 1, 0, 1] [a, b, c, d, e] = [a.toNat, b.toNat, c.toNat, e.toNat] := by
  have h : posI [5, 1, 1, 0, 1] = [0, 1, 2, 4] := by decide +kernel
  unfold esOf
  rw [h]
  rfl
theorem ex_small : ∀ a b c e : Fin 4, 1 ≤ a.val → 1 ≤ b.val → 1 ≤ c.val → 1 ≤ e.val → Huff.kraft 3 [a.val, b.val, c.val, e.val] ≤ 8 → Huff.dot [5, 1, 1, 1] [a.val, b.val, c.val, e.val] ≤ 13 → a.val = 1 ∧ b.val + c.val + e.val = 8 := by decide +kernel
theorem ex_best (ls : List Int) (h : Best [5, 1, 1, 0, 1] ls 3) : ∃ b c e : Int, ls = [1, b, c, 0, e] ∧ (1 ≤ b ∧ b ≤ 3) ∧ (1 ≤ c ∧ c ≤ 3) ∧ (1 ≤ e ∧ e ≤ 3) ∧ b + c + e = 8 := by
  obtain ⟨h1, h2, h3, h4, h5⟩ := h
  match ls, h1 with
  | [a, b, c, d, e], _ =>
    have hd := h2 3 (by decide) (by decide)
    have ha := h3 0 (by decide) (by decide)
    have hb := h3 1 (by decide) (by decide)
    have hc := h3 2 (by decide) (by decide)
    have he := h3 4 (by decide) (by decide)
    simp only [List.getD_cons_zero, List.getD_cons_succ] at hd ha hb hc he
    rw [ex_ws, ex_es] at h4 h5
    have hm : Huff.May 3 [5, 1, 1, 1] [1, 3, 3, 2] := ⟨rfl, by decide, by decide, by decide⟩
    have k := h5 _ hm
    have k2 : Huff.dot [5, 1, 1, 1] [1, 3, 3, 2] = 13 := by decide
    rw [k2] at k
    have r := h4.room
    obtain ⟨a1, rfl⟩ := Int.eq_ofNat_of_zero_le (show 0 ≤ a by omega)
    obtain ⟨b1, rfl⟩ := Int.eq_ofNat_of_zero_le (show 0 ≤ b by omega)
    obtain ⟨c1, rfl⟩ := Int.eq_ofNat_of_zero_le (show 0 ≤ c by omega)
    obtain ⟨e1, rfl⟩ := Int.eq_ofNat_of_zero_le (show 0 ≤ e by omega)
    simp only [Int.toNat_natCast] at k r
    have q := ex_small ⟨a1, by omega⟩ ⟨b1, by omega⟩ ⟨c1, by omega⟩ ⟨e1, by omega⟩ (by simp only; omega) (by simp only; omega) (by simp only; omega) (by simp only; omega) r k
    simp only at q
    refine ⟨b1, c1, e1, ?_, by omega, by omega, by omega, by omega⟩
    rw [hd, q.1]
    rfl
theorem lit5 (w : World) (a b c d e : Int) (h : ∀ z ∈ [a, b, c, d, e], -9223372036854775808 ≤ z ∧ z ≤ 9223372036854775807) : Ints (w.alloc (.cells #[.int .i64 a, .int .i64 b, .int .i64 c, .int .i64 d, .int .i64 e] 3)) (some ⟨w.heap.size, 0, none⟩) 5 [a, b, c, d, e] := by
  refine ⟨rfl, h, fun _ => ⟨_, 0, rfl, fun j z hj => ?_⟩⟩
  rw [World.cell?_alloc_mark, Nat.zero_add]
  match j, hj with
  | 0, hj => cases hj; rfl
  | 1, hj => cases hj; rfl
  | 2, hj => cases hj; rfl
  | 3, hj => cases hj; rfl
  | 4, hj => cases hj; rfl
  | j + 5, hj => simp at hj

end Go.Proofs.YtpmoknnhgginjaaDoor.Hu

/- What follows of lengths that cost least: their weight, their order, that they are whole. -/
namespace Go.Proofs.YtpmoknnhgginjaaDoor.Hu
open Go.RowKit
set_option linter.unusedVariables false

theorem kraft_scale (most : Nat) (hm : most ≤ 16) (es : List Nat) (h : ∀ e ∈ es, e ≤ most) : Huff.kraft 16 es = 2 ^ (16 - most) * Huff.kraft most es := by
  induction es with
  | nil => rfl
  | cons e es ih =>
    have he := h e (List.mem_cons_self ..)
    rw [Huff.kraft, Huff.kraft, ih (fun x hx => h x (List.mem_cons_of_mem _ hx)), Nat.mul_add, ← Nat.pow_add, show 16 - most + (most - e) = 16 - e by omega]
theorem weight_over (zs ls : List Int) (L : List Nat) (h : ∀ i ∈ L, 0 ≤ zs.getD i 0 ∧ (zs.getD i 0 = 0 → ls.getD i 0 = 0) ∧ (0 < zs.getD i 0 → 1 ≤ ls.getD i 0)) :
    (L.map (fun i => wt (ls.getD i 0).toNat)).sum = Huff.kraft 16 ((L.filter (fun i => decide (0 < zs.getD i 0))).map (fun i => (ls.getD i 0).toNat)) := by
  induction L with
  | nil => rfl
  | cons i L ih =>
    obtain ⟨h0, h1, h2⟩ := h i (List.mem_cons_self ..)
    rw [List.map_cons, List.sum_cons, ih (fun j hj => h j (List.mem_cons_of_mem _ hj))]
    by_cases hp : 0 < zs.getD i 0
    · rw [List.filter_cons_of_pos (by simpa using hp), List.map_cons, Huff.kraft]
      have := h2 hp
      rw [wt, if_neg (by omega)]
    · rw [List.filter_cons_of_neg (by simpa using hp), h1 (by omega)]
      simp [wt]
theorem nats_range (ls : List Int) : nats ls = (List.range ls.length).map (fun i => (ls.getD i 0).toNat) := by
  unfold nats
  apply List.ext_getElem
  · simp
  · intro i h1 h2
    simp only [List.length_map] at h1
    simp only [List.getElem_map, List.getElem_range]
    rw [List.getD_eq_getElem?_getD, List.getElem?_eq_getElem h1]
    rfl
theorem getD_mem {zs : List Int} {i : Nat} (h : i < zs.length) : zs.getD i 0 ∈ zs := by
  rw [List.getD_eq_getElem?_getD, List.getElem?_eq_getElem h]
  exact List.getElem_mem h

theorem best_weight {zs ls : List Int} {most : Nat} (h : Best zs ls most) (hz : ∀ z ∈ zs, 0 ≤ z) (hm : most ≤ 16) : weightS (nats ls) = 2 ^ (16 - most) * Huff.kraft most (esOf zs ls) := by
  have k := weight_over zs ls (List.range ls.length) (fun i hi => by
    have hl : i < zs.length := by have := List.mem_range.1 hi; have := h.len; omega
    exact ⟨hz _ (getD_mem hl), fun e => h.zero i hl e, fun e => (h.pos i hl e).1⟩)
  unfold weightS
  rw [nats_range, List.map_map]
  have e : ((List.range ls.length).map (wt ∘ fun i => (ls.getD i 0).toNat)).sum = ((List.range ls.length).map (fun i => wt (ls.getD i 0).toNat)).sum := rfl
  rw [e, k, h.len]
  exact kraft_scale most hm _ h.may.le
theorem best_lens {zs ls : List Int} {most : Nat} (h : Best zs ls most) (hz : ∀ z ∈ zs, 0 ≤ z) (hl : zs.length ≤ 300) (hm : most ≤ 16) : lensOk ls = true ∧ weightZ ls ≤ 65536 := by
  have h1 : lensOk ls = true := by
    unfold lensOk
    simp only [decide_eq_true_eq]
    refine ⟨by rw [h.len]; exact hl, fun z hz2 => ?_⟩
    obtain ⟨i, hi⟩ := List.getElem?_of_mem hz2
    have hil : i < ls.length := (List.getElem?_eq_some_iff.1 hi).1
    have hg : ls.getD i 0 = z := by rw [List.getD_eq_getElem?_getD, hi]; rfl
    have hil2 : i < zs.length := by have := h.len; omega
    have h0 := hz _ (getD_mem hil2)
    by_cases hp : 0 < zs.getD i 0
    · have := h.pos i hil2 hp
      rw [hg] at this
      omega
    · have := h.zero i hil2 (by omega)
      rw [hg] at this
      omega
  refine ⟨h1, ?_⟩
  unfold weightZ
  rw [h1, if_pos rfl, best_weight h hz hm]
  have h2 : 2 ^ (16 - most) * Huff.kraft most (esOf zs ls) ≤ 2 ^ (16 - most) * 2 ^ most := Nat.mul_le_mul_left _ h.may.room
  rw [← Nat.pow_add, show 16 - most + most = 16 by omega] at h2
  exact h2
theorem ws_pos (zs : List Int) : ∀ w ∈ wsOf zs, 0 < w := by
  intro w hw
  unfold wsOf posI at hw
  obtain ⟨i, hi, rfl⟩ := List.mem_map.1 hw
  have := (List.mem_filter.1 hi).2
  simp only [decide_eq_true_eq] at this
  omega
theorem best_full {zs ls : List Int} {most : Nat} (h : Best zs ls most) (hz : ∀ z ∈ zs, 0 ≤ z) (hl : zs.length ≤ 300) (hm : most ≤ 16) (h2 : 2 ≤ (posI zs).length) : weightZ ls = 65536 := by
  unfold weightZ
  rw [(best_lens h hz hl hm).1, if_pos rfl, best_weight h hz hm, Huff.best_whole most (wsOf zs) (esOf zs ls) (by simpa [wsOf] using h2) (ws_pos zs) h.may h.best, ← Nat.pow_add, show 16 - most + most = 16 by omega]
theorem posI_at {zs : List Int} {i : Nat} (h : i < zs.length) (hp : 0 < zs.getD i 0) : ∃ k, ∃ hk : k < (posI zs).length, (posI zs)[k] = i := by
  have hm : i ∈ posI zs := List.mem_filter.2 ⟨List.mem_range.2 h, by simpa using hp⟩
  obtain ⟨k, hk, e⟩ := List.getElem_of_mem hm
  exact ⟨k, hk, e⟩
/-- What is there more often has no longer code. -/
theorem best_pair {zs ls : List Int} {most i j : Nat} (h : Best zs ls most) (hi : i < zs.length) (hj : j < zs.length) (h1 : zs.getD j 0 < zs.getD i 0) (h2 : 0 < zs.getD j 0) : ls.getD i 0 ≤ ls.getD j 0 := by
  obtain ⟨k, hk, ek⟩ := posI_at hi (by omega)
  obtain ⟨m, hm, em⟩ := posI_at hj h2
  have hek : k < (esOf zs ls).length := by simpa [esOf] using hk
  have hem : m < (esOf zs ls).length := by simpa [esOf] using hm
  have q := Huff.best_order most (wsOf zs) (esOf zs ls) h.may h.best k m hek hem (by
    simp only [wsOf, List.getElem_map, ek, em]
    omega)
  simp only [esOf, List.getElem_map, ek, em] at q
  have := h.pos i hi (by omega)
  have := h.pos j hj h2
  omega
end Go.Proofs.YtpmoknnhgginjaaDoor.Hu

/- The cost of lengths, and the document's least of the counts that are put in order. -/
namespace Go.Proofs.YtpmoknnhgginjaaDoor.Hu
open Go.RowKit
set_option linter.unusedVariables false

theorem zs_range (zs : List Int) : zs = (List.range zs.length).map (fun i => zs.getD i 0) := by
  apply List.ext_getElem
  · simp
  · intro i h1 h2
    simp only [List.getElem_map, List.getElem_range]
    rw [List.getD_eq_getElem?_getD, List.getElem?_eq_getElem h1]
    rfl
theorem filter_pos (zs : List Int) : zs.filter (fun z => decide (0 < z)) = (posI zs).map (fun i => zs.getD i 0) := by
  have e : ∀ L : List Nat, (L.map (fun i => zs.getD i 0)).filter (fun z => decide (0 < z)) = (L.filter (fun i => decide (0 < zs.getD i 0))).map (fun i => zs.getD i 0) := by
    intro L
    rw [List.filter_map]
    rfl
  have k := e (List.range zs.length)
  rw [← zs_range] at k
  exact k
theorem ws_filter (zs : List Int) : wsOf zs = (zs.filter (fun z => decide (0 < z))).map Int.toNat := by
  rw [filter_pos, List.map_map]
  rfl
/-- The counts above 0 in order. -/
def ordered (zs : List Int) : List Nat := (sortD [] zs).map Int.toNat
theorem ordered_perm (zs : List Int) : (wsOf zs).Perm (ordered zs) := by
  rw [ws_filter]
  exact ((sortD_perm [] zs).map Int.toNat).symm
theorem ordered_ints (zs : List Int) : ints (ordered zs) = sortD [] zs := by
  have hp : ∀ z ∈ sortD [] zs, 0 < z := by
    intro z hz
    have := (sortD_perm [] zs).mem_iff.1 hz
    rw [List.nil_append, List.mem_filter] at this
    simpa using this.2
  unfold ints ordered
  rw [List.map_map]
  conv => rhs; rw [← List.map_id (sortD [] zs)]
  refine List.map_congr_left (fun z hz => ?_)
  have := hp z hz
  simp only [Function.comp, id]
  omega
theorem ordered_falls (zs : List Int) : Huff.Falling (ordered zs) := by
  have h := sortD_fall [] zs List.Pairwise.nil
  unfold ordered
  generalize sortD [] zs = l at *
  induction l with
  | nil => trivial
  | cons x l ih =>
    obtain ⟨h1, h2⟩ := List.pairwise_cons.1 h
    refine ⟨fun y hy => ?_, ih h2⟩
    obtain ⟨z, hz, rfl⟩ := List.mem_map.1 hy
    have := h1 z hz
    omega
theorem ordered_length (zs : List Int) : (ordered zs).length = (posI zs).length := by
  rw [← (ordered_perm zs).length_eq]; simp [wsOf]
theorem sum_perm {a b : List Nat} (h : a.Perm b) : a.sum = b.sum := by
  induction h with
  | nil => rfl
  | cons x _ ih => simp [ih]
  | swap x y l => simp only [List.sum_cons]; omega
  | trans _ _ i1 i2 => exact i1.trans i2
theorem sum_le_of (l : List Nat) (B : Nat) (h : ∀ x ∈ l, x ≤ B) : l.sum ≤ B * l.length := by
  induction l with
  | nil => simp
  | cons x l ih =>
    rw [List.sum_cons, List.length_cons, Nat.mul_add, Nat.mul_one]
    have := ih (fun y hy => h y (List.mem_cons_of_mem _ hy))
    have := h x (List.mem_cons_self ..)
    omega

/-- What lengths cost, count by count. -/
def cost (zs ls : List Int) (k : Nat) : Int := ((List.range k).map (fun i => zs.getD i 0 * ls.getD i 0)).sum
theorem cost_succ (zs ls : List Int) (k : Nat) : cost zs ls (k + 1) = cost zs ls k + zs.getD k 0 * ls.getD k 0 := by
  unfold cost
  rw [List.range_succ, List.map_append, List.sum_append]
  simp
theorem cost_over (zs ls : List Int) (L : List Nat) (h : ∀ i ∈ L, 0 ≤ zs.getD i 0 ∧ (0 < zs.getD i 0 → 0 ≤ ls.getD i 0)) :
    (L.map (fun i => zs.getD i 0 * ls.getD i 0)).sum = ((Huff.dot ((L.filter (fun i => decide (0 < zs.getD i 0))).map (fun i => (zs.getD i 0).toNat)) ((L.filter (fun i => decide (0 < zs.getD i 0))).map (fun i => (ls.getD i 0).toNat)) : Nat) : Int) := by
  induction L with
  | nil => rfl
  | cons i L ih =>
    obtain ⟨h0, h1⟩ := h i (List.mem_cons_self ..)
    rw [List.map_cons, List.sum_cons, ih (fun j hj => h j (List.mem_cons_of_mem _ hj))]
    by_cases hp : 0 < zs.getD i 0
    · rw [List.filter_cons_of_pos (by simpa using hp), List.map_cons, List.map_cons, Huff.dot_cons]
      have hl := h1 hp
      rw [Int.natCast_add, Int.natCast_mul, Int.toNat_of_nonneg h0, Int.toNat_of_nonneg hl]
    · rw [List.filter_cons_of_neg (by simpa using hp), show zs.getD i 0 = 0 by omega]
      simp
theorem best_cost {zs ls : List Int} {most : Nat} (h : Best zs ls most) (hz : ∀ z ∈ zs, 0 ≤ z) : cost zs ls zs.length = (Huff.dot (wsOf zs) (esOf zs ls) : Nat) := by
  have k := cost_over zs ls (List.range zs.length) (fun i hi => by
    have hl : i < zs.length := List.mem_range.1 hi
    exact ⟨hz _ (getD_mem hl), fun e => by have := (h.pos i hl e).1; omega⟩)
  unfold cost
  rw [k]
  rfl
/-- Least lengths cost what the document finds. -/
theorem cost_least {zs ls : List Int} {r : Nat} (h : Best zs ls (r + 1)) (hz : ∀ z ∈ zs, 0 ≤ z) : cost zs ls zs.length = enc (Huff.least r (ordered zs) 2) + ((ordered zs).sum : Nat) := by
  obtain ⟨v, h1, h2⟩ := Huff.best_is_least r (wsOf zs) (ordered zs) (esOf zs ls) (ordered_perm zs) (ordered_falls zs) h.may h.best
  rw [best_cost h hz, h2, h1]
  simp [enc]
/-- One count alone. -/
theorem cost_one {zs ls : List Int} {most : Nat} (h : Best zs ls most) (hz : ∀ z ∈ zs, 0 ≤ z) (h1 : (posI zs).length = 1) (hm : 1 ≤ most) : cost zs ls zs.length = ((ordered zs).sum : Nat) := by
  rw [best_cost h hz, ← sum_perm (ordered_perm zs)]
  have hw : (wsOf zs).length = 1 := by simpa [wsOf] using h1
  have he := h.may.len
  have hb := h.best
  have hp := h.may.pos
  generalize wsOf zs = ws at *
  generalize esOf zs ls = es at *
  match ws, hw with
  | [a], _ =>
    match es, he with
    | [e], _ =>
      have k := hb [1] ⟨rfl, by simp, by simpa using hm, by simp only [Huff.kraft]; exact Nat.pow_le_pow_right (by omega) (by omega)⟩
      have p := hp e (by simp)
      simp only [Huff.dot, Nat.mul_one, Nat.add_zero, List.sum_cons, List.sum_nil] at k ⊢
      have : a * 1 ≤ a * e := Nat.mul_le_mul_left _ p
      omega
theorem cost_none {zs ls : List Int} {most : Nat} (h : Best zs ls most) (hz : ∀ z ∈ zs, 0 ≤ z) (h1 : (posI zs).length = 0) : cost zs ls zs.length = 0 := by
  rw [best_cost h hz]
  have e : wsOf zs = [] := by
    unfold wsOf
    rw [List.eq_nil_of_length_eq_zero h1]
    rfl
  rw [e, Huff.dot_nil]
  rfl
end Go.Proofs.YtpmoknnhgginjaaDoor.Hu

/- The walk of HuffOrder over what the program's functions are to say. -/
namespace Go.Proofs.YtpmoknnhgginjaaDoor.Hu
open Go.RowKit
set_option linter.unusedVariables false

theorem getD_of {zs : List Int} {i : Nat} {z : Int} (h : zs[i]? = some z) : zs.getD i 0 = z := by rw [List.getD_eq_getElem?_getD, h]; rfl
/-- How many counts so far are above 0. -/
def above (zs : List Int) (k : Nat) : Nat := ((List.range k).filter (fun i => decide (0 < zs.getD i 0))).length
theorem above_succ (zs : List Int) (k : Nat) : above zs (k + 1) = above zs k + (if 0 < zs.getD k 0 then 1 else 0) := by
  unfold above
  rw [List.range_succ, List.filter_append, List.length_append]
  congr 1
  by_cases h : 0 < zs.getD k 0
  · rw [if_pos h, List.filter_cons_of_pos (by simpa using h)]; rfl
  · rw [if_neg h, List.filter_cons_of_neg (by simpa using h)]; rfl
theorem above_all (zs : List Int) : above zs zs.length = (posI zs).length := rfl
theorem above_le (zs : List Int) (k : Nat) : above zs k ≤ k := by
  unfold above
  exact Nat.le_trans (List.length_filter_le _ _) (by simp)

end Go.Proofs.YtpmoknnhgginjaaDoor.Hu

/- HuffLeast: what is right so far, as plain data; the way of too many counts. -/
namespace Go.Proofs.YtpmoknnhgginjaaDoor.Hu
open Go.RowKit
set_option linter.unusedVariables false

/-- What is right so far. -/
def rightN (zs : List Int) (most : Int) (k : Nat) : Bool := decide (1 ≤ most ∧ most ≤ 16 ∧ zs.length ≤ 300) && (List.range k).all (fun i => decide (0 ≤ zs.getD i 0 ∧ zs.getD i 0 ≤ 1099511627776))
theorem rightN_succ (zs : List Int) (most : Int) (k : Nat) : rightN zs most (k + 1) = (rightN zs most k && decide (0 ≤ zs.getD k 0 ∧ zs.getD k 0 ≤ 1099511627776)) := by
  unfold rightN
  rw [List.range_succ, List.all_append, Bool.and_assoc]
  simp
theorem good_right (zs : List Int) (most : Int) : good zs most = (rightN zs most zs.length && decide ((posI zs).length ≤ 2 ^ most.toNat)) := by
  rw [Bool.eq_iff_iff]
  unfold good rightN
  simp only [Bool.and_eq_true, decide_eq_true_eq, List.all_eq_true, List.mem_range]
  constructor
  · rintro ⟨h1, h2, h3, h4, h5⟩
    exact ⟨⟨⟨h1, h2, h3⟩, fun i hi => h4 _ (getD_mem hi)⟩, h5⟩
  · rintro ⟨⟨⟨h1, h2, h3⟩, h4⟩, h5⟩
    refine ⟨h1, h2, h3, fun z hz => ?_, h5⟩
    obtain ⟨i, hi⟩ := List.getElem?_of_mem hz
    have := h4 i (List.getElem?_eq_some_iff.1 hi).1
    rw [getD_of hi] at this
    exact this

end Go.Proofs.YtpmoknnhgginjaaDoor.Hu

/- No code begins with another one; each is below two to its length: as plain data. -/
namespace Go.Proofs.YtpmoknnhgginjaaDoor.Hu
open Go.RowKit
set_option linter.unusedVariables false

theorem code_none (l : List Nat) (i : Nat) (h : l.getD i 0 = 0) : outOf l (Huff.ordered l 16) i = 0 := by
  unfold outOf
  rw [find_none l (Huff.ordered l 16) 0 i (fun hm => by have := (Huff.mem_ordered l 16 i).1 hm; omega)]
/-- A symbol's span, and its code. -/
theorem code_at (l : List Nat) (i : Nat) (hi : i < l.length) (h1 : 1 ≤ l.getD i 0) (h2 : l.getD i 0 ≤ 16) : ∃ p, (i, p) ∈ Huff.all l ∧ outOf l (Huff.ordered l 16) i = p / Huff.room l i ∧ outOf l (Huff.ordered l 16) i * Huff.room l i = p := by
  obtain ⟨p, hp⟩ := Huff.all_sym l i hi h1 h2
  have e := outOf_mem l (Huff.ordered l 16) i p (Huff.nodup_ordered l 16) hp
  refine ⟨p, hp, e, ?_⟩
  rw [e]
  exact Nat.div_mul_cancel (Huff.all_even l (i, p) hp)
theorem code_below (l : List Nat) (i : Nat) (hi : i < l.length) (h1 : 1 ≤ l.getD i 0) (h2 : l.getD i 0 ≤ 16) (hw : Huff.rooms l (Huff.ordered l 16) ≤ 65536) : outOf l (Huff.ordered l 16) i < 2 ^ l.getD i 0 := by
  obtain ⟨p, hp, e, _⟩ := code_at l i hi h1 h2
  have k := Huff.code_lt l (i, p) hp h2 hw
  rw [e]
  exact k
/-- Bits that a code begins with, as rows of sixteen: a code's span holds what begins with it. -/
theorem code_apart (l : List Nat) (i j : Nat) (hi : i < l.length) (hj : j < l.length) (h1 : 1 ≤ l.getD i 0) (h2 : l.getD i 0 ≤ l.getD j 0) (h3 : l.getD j 0 ≤ 16) (hne : i ≠ j) :
    outOf l (Huff.ordered l 16) j / 2 ^ (l.getD j 0 - l.getD i 0) ≠ outOf l (Huff.ordered l 16) i := by
  intro e
  obtain ⟨p, hp, _, ep⟩ := code_at l i hi h1 (by omega)
  obtain ⟨q, hq, _, eq⟩ := code_at l j hj (by omega) h3
  generalize outOf l (Huff.ordered l 16) i = x at *
  generalize outOf l (Huff.ordered l 16) j = y at *
  have hroom : Huff.room l i = 2 ^ (l.getD j 0 - l.getD i 0) * Huff.room l j := by
    unfold Huff.room
    rw [← Nat.pow_add, show l.getD j 0 - l.getD i 0 + (16 - l.getD j 0) = 16 - l.getD i 0 by omega]
  have hd := Nat.two_pow_pos (l.getD j 0 - l.getD i 0)
  generalize 2 ^ (l.getD j 0 - l.getD i 0) = D at *
  have hr := Huff.room_pos l j
  have k1 : x * D ≤ y := by rw [← e]; exact Nat.div_mul_le_self _ _
  have k2 : y < (x + 1) * D := by rw [← e, Nat.mul_comm]; exact Nat.lt_mul_div_succ _ hd
  have m1 : x * D * Huff.room l j ≤ y * Huff.room l j := Nat.mul_le_mul_right _ k1
  have m2 : y * Huff.room l j < (x + 1) * D * Huff.room l j := Nat.mul_lt_mul_of_pos_right k2 hr
  rw [Nat.mul_assoc, ← hroom, ep, eq] at m1
  rw [Nat.mul_assoc, ← hroom, eq, Nat.add_mul, Nat.one_mul, ep] at m2
  exact hne (Huff.all_apart l i j p q q hp hq m1 m2 (Nat.le_refl _) (by omega))
/-- Rows of sixteen bits, of whole lengths: each begins with a code. -/
theorem code_whole (l : List Nat) (hl : ∀ s, l.getD s 0 ≤ 16) (hw : Huff.rooms l (Huff.ordered l 16) = 65536) (v : Nat) (hv : v < 65536) : ∃ i, i < l.length ∧ 1 ≤ l.getD i 0 ∧ v / 2 ^ (16 - l.getD i 0) = outOf l (Huff.ordered l 16) i := by
  obtain ⟨x, hx, h1, h2⟩ := Huff.all_cover l v (by rw [hw]; exact hv)
  have hm : x.1 ∈ Huff.ordered l 16 := by
    have : x.1 ∈ (Huff.all l).map Prod.fst := List.mem_map.2 ⟨x, hx, rfl⟩
    rw [Huff.all, Huff.spans_syms] at this
    exact this
  obtain ⟨m1, m2, m3⟩ := (Huff.mem_ordered l 16 x.1).1 hm
  refine ⟨x.1, m1, m2, ?_⟩
  have e := outOf_mem l (Huff.ordered l 16) x.1 x.2 (Huff.nodup_ordered l 16) hx
  rw [e]
  exact (Huff.code_begins l x hx v).2 ⟨h1, h2⟩
end Go.Proofs.YtpmoknnhgginjaaDoor.Hu

/- What is met on the way along a code, bit by bit: as plain data. -/
namespace Go.Proofs.YtpmoknnhgginjaaDoor.Hu
open Go.RowKit
set_option linter.unusedVariables false

theorem nats_at {zs : List Int} {i : Nat} (hl : lensOk zs = true) (hi : i < zs.length) : zs.getD i 0 = (((nats zs).getD i 0 : Nat) : Int) ∧ (nats zs).getD i 0 ≤ 16 := by
  have h : zs[i]? = some (zs.getD i 0) := by rw [List.getD_eq_getElem?_getD, List.getElem?_eq_getElem hi]; rfl
  have h2 := nats_get h
  unfold lensOk at hl
  simp only [decide_eq_true_eq] at hl
  have h3 := hl.2 _ (getD_mem hi)
  rw [h2]
  omega
theorem codesZ_at {zs : List Int} {i : Nat} (hi : i < zs.length) : (codesZ zs).getD i 0 = ((outOf (nats zs) (Huff.ordered (nats zs) 16) i : Nat) : Int) := by
  have hl : i < (codesOf (nats zs)).length := by rw [codesOf_length, nats_length]; exact hi
  have e := codesOf_get (nats zs) i (by rw [nats_length]; exact hi)
  unfold codesZ
  rw [List.getD_eq_getElem?_getD, List.getElem?_map, List.getElem?_eq_getElem hl]
  rw [List.getD_eq_getElem?_getD, List.getElem?_eq_getElem hl] at e
  simp only [Option.getD_some] at e
  simp only [Option.map_some, Option.getD_some, e]
theorem findS_is {zs cs : List Int} {n v : Int} {k s : Nat} (h : findS zs cs n v k = some s) : s < k ∧ zs.getD s 0 = n ∧ cs.getD s 0 = v := by
  unfold findS at h
  have h1 := List.find?_some h
  have h2 := List.mem_of_find?_eq_some h
  unfold isCode at h1
  simp only [Bool.and_eq_true, beq_iff_eq] at h1
  exact ⟨List.mem_range.1 h2, h1.1, h1.2⟩
theorem findS_has {zs cs : List Int} {n v : Int} {k s : Nat} (hs : s < k) (h1 : zs.getD s 0 = n) (h2 : cs.getD s 0 = v) : ∃ t, findS zs cs n v k = some t := by
  cases h : findS zs cs n v k with
  | some t => exact ⟨t, rfl⟩
  | none =>
    unfold findS at h
    rw [List.find?_eq_none] at h
    exfalso
    refine h s (List.mem_range.2 hs) ?_
    unfold isCode
    rw [h1, h2]
    simp
/-- A code amid: no code ends there, one goes on. -/
theorem amid {zs : List Int} (hm : mayCode zs = true) {s k : Nat} (hs : s < zs.length) (hk1 : 1 ≤ k) (hk : k < (nats zs).getD s 0) :
    findS zs (codesZ zs) (k : Nat) ((outOf (nats zs) (Huff.ordered (nats zs) 16) s / 2 ^ ((nats zs).getD s 0 - k) : Nat) : Int) zs.length = none ∧ beginsS zs (codesZ zs) (k : Nat) ((outOf (nats zs) (Huff.ordered (nats zs) 16) s / 2 ^ ((nats zs).getD s 0 - k) : Nat) : Int) zs.length = true := by
  have hl : lensOk zs = true := by unfold mayCode at hm; simp only [Bool.and_eq_true] at hm; exact hm.1
  constructor
  · cases h : findS zs (codesZ zs) (k : Nat) ((outOf (nats zs) (Huff.ordered (nats zs) 16) s / 2 ^ ((nats zs).getD s 0 - k) : Nat) : Int) zs.length with
    | none => rfl
    | some t =>
      exfalso
      obtain ⟨h1, h2, h3⟩ := findS_is h
      rw [codesZ_at h1] at h3
      obtain ⟨q1, q2⟩ := nats_at hl h1
      rw [q1] at h2
      have e2 : (nats zs).getD t 0 = k := by omega
      have hne : t ≠ s := by rintro rfl; omega
      have r := code_apart (nats zs) t s (by rw [nats_length]; exact h1) (by rw [nats_length]; exact hs) (by omega) (by omega) (nats_at hl hs).2 hne
      rw [e2] at r
      exact r (by omega)
  · unfold beginsS
    rw [List.any_eq_true]
    refine ⟨s, List.mem_range.2 hs, ?_⟩
    unfold longer
    obtain ⟨q1, q2⟩ := nats_at hl hs
    rw [q1, codesZ_at hs]
    simp only [Bool.and_eq_true, decide_eq_true_eq, beq_iff_eq]
    refine ⟨by omega, ?_⟩
    rw [show ((((nats zs).getD s 0 : Nat) : Int) - (k : Int)).toNat = (nats zs).getD s 0 - k by omega]
    simp
/-- A code's end. -/
theorem ended {zs : List Int} (hm : mayCode zs = true) {s : Nat} (hs : s < zs.length) (h1 : 1 ≤ (nats zs).getD s 0) :
    findS zs (codesZ zs) ((nats zs).getD s 0 : Nat) ((outOf (nats zs) (Huff.ordered (nats zs) 16) s : Nat) : Int) zs.length = some s := by
  have hl : lensOk zs = true := by unfold mayCode at hm; simp only [Bool.and_eq_true] at hm; exact hm.1
  obtain ⟨t, ht⟩ := findS_has (n := ((nats zs).getD s 0 : Nat)) hs (nats_at hl hs).1 (codesZ_at hs)
  obtain ⟨k1, k2, k3⟩ := findS_is ht
  rw [ht]
  congr 1
  rw [codesZ_at k1] at k3
  obtain ⟨q1, q2⟩ := nats_at hl k1
  rw [q1] at k2
  have e2 : (nats zs).getD t 0 = (nats zs).getD s 0 := by omega
  rcases Nat.decEq t s with hne | he
  · exfalso
    have r := code_apart (nats zs) t s (by rw [nats_length]; exact k1) (by rw [nats_length]; exact hs) (by omega) (by omega) (nats_at hl hs).2 hne
    rw [e2, Nat.sub_self, Nat.pow_zero, Nat.div_one] at r
    exact r (by omega)
  · exact he
end Go.Proofs.YtpmoknnhgginjaaDoor.Hu
