/- The walk of sorted. -/
import Derived.Test.YtoiknbbimgeihaaH
import Derived.Deep.RegionLaw
import Derived.BigRegion
import Derived.RegionTactic
namespace Go.Proofs.Ytoiknbbimgeihaa
open Go.RowKit
set_option linter.unusedVariables false

theorem insD_at (z : Int) (l : List Int) (t : Nat) (h1 : ∀ x ∈ l.take t, z ≤ x) (h2 : ∀ x, l[t]? = some x → x < z) : insD z l = l.take t ++ z :: l.drop t := by
  induction l generalizing t with
  | nil => simp [insD]
  | cons y l ih =>
    cases t with
    | zero =>
      have := h2 y rfl
      have hn : ¬ z ≤ y := by omega
      simp [insD, hn]
    | succ t =>
      have hy := h1 y (by simp)
      have e : insD z (y :: l) = y :: insD z l := by simp [insD, hy]
      rw [e, ih t (fun x hx => h1 x (by simp [hx])) (fun x hx => h2 x (by simpa using hx))]
      simp
theorem insD_length (z : Int) (l : List Int) : (insD z l).length = l.length + 1 := by rw [(insD_perm z l).length_eq]; simp
theorem sortD_snoc (zs : List Int) (z : Int) : sortD [] (zs ++ [z]) = step1 (sortD [] zs) z := by
  rw [sortD_fold, sortD_fold, List.foldl_append]; rfl

/-- A row of the call's own, read. -/
theorem own_ints {w : World} {B n c : Nat} {aa : Option Addr} {xs : List Int} (h : w.ownsRow B 3 1 (.slice aa n c) n (vals xs)) (hb : ∀ z ∈ xs, -9223372036854775808 ≤ z ∧ z ≤ 9223372036854775807) : Ints w aa n xs ∧ n ≤ c ∧ (aa = none → n = 0 ∧ c = 0) := by
  obtain ⟨hl, h2⟩ := h
  rw [vals_length] at hl
  refine ⟨⟨by omega, hb, fun hp => ?_⟩, ?_⟩
  · rcases h2 with ⟨_, e2⟩ | ⟨g, cap, cur, e, hB, hh, p1, p2, p3, p4⟩
    · omega
    · cases e
      refine ⟨g, 0, rfl, fun j y hj => ?_⟩
      have hj2 : (vals xs)[j]? = (cur.toList.take (n * 1))[j]? := by rw [p4]
      have hjl : j < n := by have := (List.getElem?_eq_some_iff.1 hj).1; omega
      unfold vals at hj2
      rw [List.getElem?_take_of_lt (by omega), List.getElem?_map, hj] at hj2
      have hj3 : cur[j]? = some (.int .i64 y) := by simpa using hj2.symm
      simp [World.cell?, hh, hj3]
  · rcases h2 with ⟨e, e2⟩ | ⟨g, cap, cur, e, hB, hh, p1, p2, p3, p4⟩
    · cases e
      exact ⟨Nat.le_refl _, fun _ => ⟨rfl, rfl⟩⟩
    · cases e
      exact ⟨p1, fun h => by cases h⟩
theorem Ints.take {w : World} {a : Option Addr} {n k : Nat} {ys : List Int} (h : Ints w a n ys) (hk : k ≤ n) : Ints w a k (ys.take k) := by
  obtain ⟨h1, h2, h3⟩ := h
  refine ⟨by rw [List.length_take]; omega, fun y hy => h2 y (List.mem_of_mem_take hy), fun hp => ?_⟩
  obtain ⟨b, off, e, hc⟩ := h3 (by omega)
  exact ⟨b, off, e, fun j y hj => hc j y (by
    rw [List.getElem?_take] at hj
    split at hj
    · exact hj
    · cases hj)⟩
theorem Ints.drop {w : World} {a : Option Addr} {r c k : Nat} {zs : List Int} (h : Ints w a r zs) (hk : k ≤ r) (hc : r ≤ c) : Ints w (if c = k then a else a.map (fun x => x.add k)) (r - k) (zs.drop k) := by
  obtain ⟨h1, h2, h3⟩ := h
  refine ⟨by simp [h1], fun y hy => h2 y (List.mem_of_mem_drop hy), fun hp => ?_⟩
  obtain ⟨b, off, rfl, hcell⟩ := h3 (by omega)
  rw [if_neg (by omega)]
  refine ⟨b, off + k, by simp only [Option.map_some, add_spot], fun j y hj => ?_⟩
  rw [List.getElem?_drop] at hj
  rw [Nat.add_assoc]
  exact hcell _ _ hj

/-- What sorted tells: memory of the call's own. -/
def SortTold (w : World) (xs : List Int) (e : Ending) (w' : World) : Prop :=
  ∃ aa cap, e = .returned (.slice aa xs.length cap) ∧ w'.ownsRow w.heap.size 3 1 (.slice aa xs.length cap) xs.length (vals xs) ∧ Below w.heap.size w w'

theorem lit_ints (W w1 : World) (g : Nat) (z : Int) (hb : -9223372036854775808 ≤ z ∧ z ≤ 9223372036854775807) (h : w1.heap[g]? = some (.cells #[.int .i64 z] 3 (0, 0))) : Ints w1 (some ⟨g, 0, none⟩) 1 [z] := by
  refine ⟨rfl, fun y hy => by simp only [List.mem_singleton] at hy; rw [hy]; exact hb, fun _ => ⟨g, 0, rfl, fun j y hj => ?_⟩⟩
  cases j with
  | zero =>
    simp only [List.getElem?_cons_zero, Option.some.injEq] at hj
    subst hj
    simp [World.cell?, h]
  | succ j => simp at hj
theorem own_lit (w1 : World) (B g : Nat) (hg : B ≤ g) (h : w1.heap[g]? = some (.cells #[] 3 (0, 0))) : w1.ownsRow B 3 1 (.slice (some ⟨g, 0, none⟩) 0 0) 0 (vals []) :=
  ⟨by simp [vals], Or.inr ⟨g, 0, #[], rfl, hg, h, Nat.le_refl _, by unfold maxLen; omega, rfl, rfl⟩⟩
theorem heap_two (w : World) (o1 o2 : Obj) : ((w.alloc o1).alloc o2).heap[w.heap.size]? = some o1 ∧ ((w.alloc o1).alloc o2).heap[w.heap.size + 1]? = some o2 := by
  refine ⟨?_, ?_⟩
  · rw [Below.heap_alloc _ _ _ (by simp)]
    exact heap_alloc_new _ _
  · have e : (w.alloc o1).heap.size = w.heap.size + 1 := by simp
    rw [← e]
    exact heap_alloc_new _ _

/-- A row of the call's own, behind what was there at wo. -/
structure Stg (wo : World) (B : Nat) (v : Value) (n : Nat) (xs : List Int) (W : World) : Prop where
  own : W.ownsRow B 3 1 v n (vals xs)
  bel : Below wo.heap.size wo W
  high : ∀ k, v.ownBlock = some k → wo.heap.size ≤ k
  low : B ≤ wo.heap.size
theorem Stg.alloc {wo W : World} {B n : Nat} {v : Value} {xs : List Int} (h : Stg wo B v n xs W) (o : Obj) : Stg wo B v n xs (W.alloc o) :=
  ⟨own_kept h.own (fun k e => Below.heap_alloc _ _ _ (h.own.lt k e).2), h.bel.alloc h.bel.size o, h.high, h.low⟩
theorem Stg.drew {wo W : World} {B n : Nat} {v : Value} {xs : List Int} (h : Stg wo B v n xs W) : Stg wo B v n xs W.drew := ⟨h.own, below_drew h.bel, h.high, h.low⟩
theorem Stg.src {wo W : World} {B n : Nat} {v : Value} {xs : List Int} (h : Stg wo B v n xs W) {a : Option Addr} {m : Nat} {ys : List Int} (hi : Ints wo a m ys) : Ints W a m ys := hi.below h.bel
theorem step_app {wo w : World} {ops : Array Oper} {o : Oper} {a : Act} {K : Act → World → Prop} {Q : Exit → Act → World → Prop} {E : Prop} (hgd : o.guard = none) (s x : Operand) (ho : o.op = .call { callee := .builtin .append, args := #[s, x], argTypes := #[22, 22] })
    (base n : Nat) (v : Value) (xs : List Int) (hs : a.eval s = v) (S : Stg wo base v n xs w)
    (ad : Option Addr) (m c : Nat) (ds : List Int) (hx : a.eval x = .slice ad m c) (hb : Ints w ad m ds) (hc : ad = none → m = 0 ∧ c = 0) (hn : n ≤ 33554432) (hm : m ≤ 33554432)
    (h : ∀ aa cap w', Stg wo base (.slice aa (n + m) cap) (n + m) (xs ++ ds) w' → (∀ k, k < w.heap.size → some k ≠ v.ownBlock → w'.heap[k]? = w.heap[k]?) → K (a.put o.dst (.slice aa (n + m) cap)) w') :
    if Region.wanted o (yielded ops a.tmps) = true then Oper.wp Try.prog o a w K Q else E := by
  refine step_append_ints hgd s x ho base n v xs hs S.own ad m c ds hx hb hc hn hm (Nat.le_trans S.low S.bel.size) ?_
  intro aa cap w' h1 h2 h3
  refine h aa cap w' ⟨h1, S.bel.trans ⟨h2.os, h2.tape, h2.output, h2.size, fun k hk => h2.block k (Nat.lt_of_lt_of_le hk S.bel.size) (fun e => by have := S.high k e.symm; omega)⟩, ?_, S.low⟩ h2.block
  intro k hk
  rcases h3 with e | e
  · exact S.high k (e ▸ hk)
  · rw [e] at hk
    cases hk
    exact S.bel.size
theorem step_app0 {wo w : World} {ops : Array Oper} {o : Oper} {a : Act} {K : Act → World → Prop} {Q : Exit → Act → World → Prop} {E : Prop} (hgd : o.guard = none) (s x : Operand) (ho : o.op = .call { callee := .builtin .append, args := #[s, x], argTypes := #[22, 22] })
    (base : Nat) (v : Value) (hs : a.eval s = v) (S : Stg wo base v 0 [] w)
    (ad : Option Addr) (m c : Nat) (ds : List Int) (hx : a.eval x = .slice ad m c) (hb : Ints w ad m ds) (hc : ad = none → m = 0 ∧ c = 0) (hm : m ≤ 33554432)
    (h : ∀ aa cap w', Stg wo base (.slice aa m cap) m ds w' → (∀ k, k < w.heap.size → some k ≠ v.ownBlock → w'.heap[k]? = w.heap[k]?) → K (a.put o.dst (.slice aa m cap)) w') :
    if Region.wanted o (yielded ops a.tmps) = true then Oper.wp Try.prog o a w K Q else E := by
  refine step_app hgd s x ho base 0 v [] hs S ad m c ds hx hb hc (by omega) hm ?_
  intro aa cap w' h1 h2
  rw [Nat.zero_add] at h1 ⊢
  exact h aa cap w' h1 h2

set_option maxRecDepth 100000 in
set_option maxHeartbeats 2000000 in
theorem sorted_any (w : World) (a : Option Addr) (n c : Nat) (zs : List Int) (h : Ints w a n zs) (hn : n ≤ 1000) :
    Calls Try.prog 14 #[.slice a n c] w (SortTold w (sortD [] zs)) := by
  have HZ := Lib.hid h
  clear h
  go_enter Try.func14, Try.ntmps14
  go_wp2
  go_loopw [3, 9] (fun v cnt wr => ∃ (i m : Nat) (aa : Option Addr) (cap : Nat) (xs : List Int), i ≤ n ∧ cnt = .int .i64 i ∧ v = .slice aa m cap ∧ xs = sortD [] (zs.take i) ∧ xs.length = m ∧ m ≤ i ∧ (∀ x ∈ xs, -9223372036854775808 ≤ x ∧ x ≤ 9223372036854775807) ∧ wr.ownsRow w.heap.size 3 1 (.slice aa m cap) m (vals xs) ∧ Below w.heap.size w wr) (fun _ cnt _ => n - (intOf cnt).toNat)
  case atStart => exact ⟨0, 0, none, 0, [], Nat.zero_le _, rfl, rfl, rfl, rfl, Nat.le_refl _, fun x hx => absurd hx List.not_mem_nil, World.ownsRow_nil _ _ _ _, Below.refl _ _⟩
  case round =>
    obtain ⟨i, m, aa, cap, xs, hi, rfl, rfl, hxs, hm, hmi, hxb, hown, hbel⟩ := hrel
    by_cases hlt : i < n
    · obtain ⟨b, off, z, rfl, hz, hzb, hcz⟩ := (HZ.out.below hbel).at hlt
      have hsn := sortD_snoc (zs.take i) z
      rw [← take_more hz, ← hxs] at hsn
      have HSN := Lib.hid hsn
      have HO := Lib.hid hown
      have HB := Lib.hid hbel
      have HXB := Lib.hid hxb
      have HMM := Lib.hid hm
      clear hsn hown hbel hxb hxs hz
      by_cases hz0 : z ≤ 0
      · have v1 : decide (z ≤ 0) = true := by simpa using hz0
        go_wp2
        go_roundw
        case rel => exact ⟨i + 1, m, aa, cap, xs, by omega, by go_num, rfl, by rw [HSN.out, step1, if_pos hz0], HMM.out, by omega, HXB.out, HO.out, HB.out⟩
        case measure => simp [intOf]; omega
      · have v1 : decide (z ≤ 0) = false := by simpa using hz0
        obtain ⟨hI, hcap, hnil⟩ := own_ints HO.out HXB.out
        have HI := Lib.hid hI
        have HSN2 := Lib.hid (show sortD [] (zs.take (i + 1)) = insD z xs by rw [HSN.out, step1, if_neg hz0])
        clear hI HSN
        go_wp2
        obtain ⟨wo, hwo⟩ : ∃ wo : World, wo = wr := ⟨_, rfl⟩
        rw [← hwo] at HI HO HB
        go_loopw [6] (fun tv wr => ∃ t : Nat, t ≤ m ∧ tv = .int .i64 t ∧ (∀ x ∈ xs.take t, z ≤ x) ∧ wr = wo) (fun tv _ => m - (intOf tv).toNat)
        case atStart => exact ⟨0, Nat.zero_le _, rfl, fun x hx => by simp at hx, hwo.symm⟩
        case round =>
          obtain ⟨t, ht, rfl, hall, rfl⟩ := hrel
          clear hwo
          have HALL := Lib.hid hall
          clear hall
          by_cases htm : t < m
          · obtain ⟨b2, o2, x, rfl, hx, hxb2, hcx⟩ := HI.out.at htm
            have hmore := take_more hx
            by_cases hge : z ≤ x
            · have v2 : decide (z ≤ x) = true := by simpa using hge
              have X := Lib.hid (show ∀ y ∈ xs.take (t + 1), z ≤ y by
                intro y hy
                rw [hmore, List.mem_append, List.mem_singleton] at hy
                rcases hy with hy | rfl
                · exact HALL.out y hy
                · exact hge)
              clear hx hmore
              go_wp2
              go_roundw
              case rel => exact ⟨t + 1, by omega, by go_num, X.out, trivial⟩
              case measure => simp [intOf]; omega
            · have v2 : decide (z ≤ x) = false := by simpa using hge
              have HE := Lib.hid (insD_at z xs t HALL.out (fun y hy => by rw [hx] at hy; cases hy; omega))
              clear hx hmore
              have HBD := Lib.hid (show ∀ y ∈ xs.take t ++ [z] ++ xs.drop t, -9223372036854775808 ≤ y ∧ y ≤ 9223372036854775807 from by
                intro y hy
                rw [List.append_assoc, List.singleton_append, ← HE.out] at hy
                rcases List.mem_cons.1 ((insD_perm z xs).mem_iff.1 hy) with rfl | h
                · exact hzb
                · exact HXB.out y h)
              have FIN := Lib.hid (fun (w3 : World) (h : Below wr.heap.size wr w3) => show Below w.heap.size w w3 from HB.out.trans ⟨h.os, h.tape, h.output, h.size, fun k hk => h.block k (Nat.lt_of_lt_of_le hk HB.out.size)⟩)
              have hws := HB.out.size
              have b0 := Below.refl wr.heap.size wr
              have SA1 := Lib.hid (show Stg wr w.heap.size (.slice (some ⟨wr.heap.size, 0, none⟩) 0 0) 0 [] (wr.alloc (.cells #[] 3)).drew from ⟨own_lit _ _ _ hws (heap_alloc_new _ _), below_drew (b0.alloc (Nat.le_refl _) _), fun k e => by cases e; exact Nat.le_refl _, hws⟩)
              have SA2 := Lib.hid (show Stg wr w.heap.size (.slice (some ⟨wr.heap.size, 0, none⟩) 0 0) 0 [] ((wr.alloc (.cells #[] 3)).alloc (.cells #[.int .i64 z] 3)).drew from ⟨own_lit _ _ _ hws (heap_two _ _ _).1, below_drew ((b0.alloc (Nat.le_refl _) _).alloc (by simp) _), fun k e => by cases e; exact Nat.le_refl _, hws⟩)
              have SA3 := Lib.hid (show Stg wr w.heap.size (.slice (some ⟨wr.heap.size + 1, 0, none⟩) 0 0) 0 [] ((wr.alloc (.cells #[.int .i64 z] 3)).alloc (.cells #[] 3)).drew from ⟨own_lit _ _ _ (by omega) (heap_two _ _ _).2, below_drew ((b0.alloc (Nat.le_refl _) _).alloc (by simp) _), fun k e => by cases e; exact Nat.le_succ _, hws⟩)
              have HTK := Lib.hid (HI.out.take ht)
              have hdr := HI.out.drop ht hcap
              simp only [Option.map_some, add_spot] at hdr
              have HDR := Lib.hid hdr
              clear hdr
              have hnilt : some (⟨b2, o2, none⟩ : Addr) = none → t = 0 ∧ cap = 0 := fun h => by cases h
              have hnild : (if cap = t then some (⟨b2, o2, none⟩ : Addr) else some (⟨b2, o2 + t, none⟩ : Addr)) = none → m - t = 0 ∧ cap - t = 0 := fun h => by split at h <;> cases h
              have HZL := Lib.hid (fun (w1 : World) (g : Nat) (h : w1.heap[g]? = some (.cells #[.int .i64 z] 3 (0, 0))) => lit_ints wr w1 g z hzb h)
              have H2 := Lib.hid (show ((wr.alloc (.cells #[] 3)).alloc (.cells #[.int .i64 z] 3)).drew.heap[wr.heap.size + 1]? = some (.cells #[.int .i64 z] 3 (0, 0)) from (heap_two _ _ _).2)
              have H3 := Lib.hid (show ((wr.alloc (.cells #[.int .i64 z] 3)).alloc (.cells #[] 3)).drew.heap[wr.heap.size]? = some (.cells #[.int .i64 z] 3 (0, 0)) from (heap_two _ _ _).1)
              have hsz2 : wr.heap.size + 1 < ((wr.alloc (.cells #[] 3)).alloc (.cells #[.int .i64 z] 3)).drew.heap.size := by simp
              have hsz3 : wr.heap.size < ((wr.alloc (.cells #[.int .i64 z] 3)).alloc (.cells #[] 3)).drew.heap.size := by simp; omega
              have HSZ := Lib.hid (And.intro hsz2 hsz3)
              have c1 : (t : Int) ≤ (cap : Int) := by omega
              have c2 : (t : Int) ≤ (m : Int) := by omega
              have c0 : (0 : Int) ≤ (t : Int) := by omega
              clear hws b0 hsz2 hsz3
              go_wp2
              go_region_law (first
                | (refine step_app0 (by rfl) (.tmp 29) (.tmp 32) (by rfl) w.heap.size _ (by rfl) SA1.out (some ⟨b2, o2, none⟩) t cap (xs.take t) (by rfl) (SA1.out.src HTK.out) hnilt (by omega) ?_; intro aa1 cap1 w1 S1 k1)
                | (refine step_app0 (by rfl) (.tmp 29) (.tmp 32) (by rfl) w.heap.size _ (by rfl) SA2.out (some ⟨b2, o2, none⟩) t cap (xs.take t) (by rfl) (SA2.out.src HTK.out) hnilt (by omega) ?_; intro aa1 cap1 w1 S1 k1; have L2 := HZL.out w1 _ ((k1 _ HSZ.out.1 (by simp [Value.ownBlock])).trans H2.out))
                | (refine step_app0 (by rfl) (.tmp 29) (.tmp 32) (by rfl) w.heap.size _ (by rfl) SA3.out (some ⟨b2, o2, none⟩) t cap (xs.take t) (by rfl) (SA3.out.src HTK.out) hnilt (by omega) ?_; intro aa1 cap1 w1 S1 k1; have L3 := HZL.out w1 _ ((k1 _ HSZ.out.2 (by simp [Value.ownBlock])).trans H3.out))
                | (refine step_app (by rfl) (.tmp 33) (.tmp 35) (by rfl) w.heap.size t (.slice aa1 t cap1) (xs.take t) (by rfl) (S1.alloc (.cells #[.int .i64 z] 3)) (some ⟨w1.heap.size, 0, none⟩) 1 1 [z] (by rfl) (HZL.out _ _ (heap_alloc_new _ _)) (fun h => by cases h) (by omega) (by omega) ?_; intro aa2 cap2 w2 S2 k2)
                | (refine step_app (by rfl) (.tmp 33) (.tmp 35) (by rfl) w.heap.size t (.slice aa1 t cap1) (xs.take t) (by rfl) S1 _ 1 1 [z] (by rfl) L2 (fun h => by cases h) (by omega) (by omega) ?_; intro aa2 cap2 w2 S2 k2)
                | (refine step_app (by rfl) (.tmp 33) (.tmp 35) (by rfl) w.heap.size t (.slice aa1 t cap1) (xs.take t) (by rfl) S1 _ 1 1 [z] (by rfl) L3 (fun h => by cases h) (by omega) (by omega) ?_; intro aa2 cap2 w2 S2 k2)
                | (refine step_app (by rfl) (.tmp 36) (.tmp 39) (by rfl) w.heap.size (t + 1) (.slice aa2 (t + 1) cap2) (xs.take t ++ [z]) (by rfl) S2 _ (m - t) (cap - t) (xs.drop t) (by rfl) (S2.src HDR.out) hnild (by omega) (by omega) ?_; intro aa3 cap3 w3 S3 k3))
              all_goals
                have X := Lib.hid S3
                clear S3 S2 S1 k1 k2 k3
                go_wp2
                go_roundw
                case rel => exact ⟨i + 1, t + 1 + (m - t), aa3, cap3, xs.take t ++ [z] ++ xs.drop t, by omega, by go_num, rfl, by rw [HSN2.out, HE.out]; simp, by have := HMM.out; simp; omega, by omega, HBD.out, X.out.own, FIN.out w3 X.out.bel⟩
                case measure => simp [intOf]; omega
          · have HE := Lib.hid (insD_at z xs t HALL.out (fun y hy => by have := (List.getElem?_eq_some_iff.1 hy).1; have := HMM.out; omega))
            have HBD := Lib.hid (show ∀ y ∈ xs.take t ++ [z] ++ xs.drop t, -9223372036854775808 ≤ y ∧ y ≤ 9223372036854775807 from by
              intro y hy
              rw [List.append_assoc, List.singleton_append, ← HE.out] at hy
              rcases List.mem_cons.1 ((insD_perm z xs).mem_iff.1 hy) with rfl | h
              · exact hzb
              · exact HXB.out y h)
            have FIN := Lib.hid (fun (w3 : World) (h : Below wr.heap.size wr w3) => show Below w.heap.size w w3 from HB.out.trans ⟨h.os, h.tape, h.output, h.size, fun k hk => h.block k (Nat.lt_of_lt_of_le hk HB.out.size)⟩)
            have hws := HB.out.size
            have b0 := Below.refl wr.heap.size wr
            have SA1 := Lib.hid (show Stg wr w.heap.size (.slice (some ⟨wr.heap.size, 0, none⟩) 0 0) 0 [] (wr.alloc (.cells #[] 3)).drew from ⟨own_lit _ _ _ hws (heap_alloc_new _ _), below_drew (b0.alloc (Nat.le_refl _) _), fun k e => by cases e; exact Nat.le_refl _, hws⟩)
            have SA2 := Lib.hid (show Stg wr w.heap.size (.slice (some ⟨wr.heap.size, 0, none⟩) 0 0) 0 [] ((wr.alloc (.cells #[] 3)).alloc (.cells #[.int .i64 z] 3)).drew from ⟨own_lit _ _ _ hws (heap_two _ _ _).1, below_drew ((b0.alloc (Nat.le_refl _) _).alloc (by simp) _), fun k e => by cases e; exact Nat.le_refl _, hws⟩)
            have SA3 := Lib.hid (show Stg wr w.heap.size (.slice (some ⟨wr.heap.size + 1, 0, none⟩) 0 0) 0 [] ((wr.alloc (.cells #[.int .i64 z] 3)).alloc (.cells #[] 3)).drew from ⟨own_lit _ _ _ (by omega) (heap_two _ _ _).2, below_drew ((b0.alloc (Nat.le_refl _) _).alloc (by simp) _), fun k e => by cases e; exact Nat.le_succ _, hws⟩)
            have HTK := Lib.hid (HI.out.take ht)
            have HDR := Lib.hid (HI.out.drop ht hcap)
            have hnilt : aa = none → t = 0 ∧ cap = 0 := fun h => ⟨by have := (hnil h).1; omega, (hnil h).2⟩
            have hnild : (if cap = t then aa else aa.map (fun x => x.add t)) = none → m - t = 0 ∧ cap - t = 0 := fun h => by
              split at h
              · omega
              · cases haa : aa with
                | none => have := hnil haa; omega
                | some _ => rw [haa] at h; cases h
            have HZL := Lib.hid (fun (w1 : World) (g : Nat) (h : w1.heap[g]? = some (.cells #[.int .i64 z] 3 (0, 0))) => lit_ints wr w1 g z hzb h)
            have H2 := Lib.hid (show ((wr.alloc (.cells #[] 3)).alloc (.cells #[.int .i64 z] 3)).drew.heap[wr.heap.size + 1]? = some (.cells #[.int .i64 z] 3 (0, 0)) from (heap_two _ _ _).2)
            have H3 := Lib.hid (show ((wr.alloc (.cells #[.int .i64 z] 3)).alloc (.cells #[] 3)).drew.heap[wr.heap.size]? = some (.cells #[.int .i64 z] 3 (0, 0)) from (heap_two _ _ _).1)
            have hsz2 : wr.heap.size + 1 < ((wr.alloc (.cells #[] 3)).alloc (.cells #[.int .i64 z] 3)).drew.heap.size := by simp
            have hsz3 : wr.heap.size < ((wr.alloc (.cells #[.int .i64 z] 3)).alloc (.cells #[] 3)).drew.heap.size := by simp; omega
            have HSZ := Lib.hid (And.intro hsz2 hsz3)
            have c1 : (t : Int) ≤ (cap : Int) := by omega
            have c2 : (t : Int) ≤ (m : Int) := by omega
            have c0 : (0 : Int) ≤ (t : Int) := by omega
            clear hws b0 hsz2 hsz3
            go_wp2
            go_region_law (first
              | (refine step_app0 (by rfl) (.tmp 29) (.tmp 32) (by rfl) w.heap.size _ (by rfl) SA1.out aa t cap (xs.take t) (by rfl) (SA1.out.src HTK.out) hnilt (by omega) ?_; intro aa1 cap1 w1 S1 k1)
              | (refine step_app0 (by rfl) (.tmp 29) (.tmp 32) (by rfl) w.heap.size _ (by rfl) SA2.out aa t cap (xs.take t) (by rfl) (SA2.out.src HTK.out) hnilt (by omega) ?_; intro aa1 cap1 w1 S1 k1; have L2 := HZL.out w1 _ ((k1 _ HSZ.out.1 (by simp [Value.ownBlock])).trans H2.out))
              | (refine step_app0 (by rfl) (.tmp 29) (.tmp 32) (by rfl) w.heap.size _ (by rfl) SA3.out aa t cap (xs.take t) (by rfl) (SA3.out.src HTK.out) hnilt (by omega) ?_; intro aa1 cap1 w1 S1 k1; have L3 := HZL.out w1 _ ((k1 _ HSZ.out.2 (by simp [Value.ownBlock])).trans H3.out))
              | (refine step_app (by rfl) (.tmp 33) (.tmp 35) (by rfl) w.heap.size t (.slice aa1 t cap1) (xs.take t) (by rfl) (S1.alloc (.cells #[.int .i64 z] 3)) (some ⟨w1.heap.size, 0, none⟩) 1 1 [z] (by rfl) (HZL.out _ _ (heap_alloc_new _ _)) (fun h => by cases h) (by omega) (by omega) ?_; intro aa2 cap2 w2 S2 k2)
              | (refine step_app (by rfl) (.tmp 33) (.tmp 35) (by rfl) w.heap.size t (.slice aa1 t cap1) (xs.take t) (by rfl) S1 _ 1 1 [z] (by rfl) L2 (fun h => by cases h) (by omega) (by omega) ?_; intro aa2 cap2 w2 S2 k2)
              | (refine step_app (by rfl) (.tmp 33) (.tmp 35) (by rfl) w.heap.size t (.slice aa1 t cap1) (xs.take t) (by rfl) S1 _ 1 1 [z] (by rfl) L3 (fun h => by cases h) (by omega) (by omega) ?_; intro aa2 cap2 w2 S2 k2)
              | (refine step_app (by rfl) (.tmp 36) (.tmp 39) (by rfl) w.heap.size (t + 1) (.slice aa2 (t + 1) cap2) (xs.take t ++ [z]) (by rfl) S2 _ (m - t) (cap - t) (xs.drop t) (by rfl) (S2.src HDR.out) hnild (by omega) (by omega) ?_; intro aa3 cap3 w3 S3 k3))
            all_goals
              have X := Lib.hid S3
              clear S3 S2 S1 k1 k2 k3
              go_wp2
              go_roundw
              case rel => exact ⟨i + 1, t + 1 + (m - t), aa3, cap3, xs.take t ++ [z] ++ xs.drop t, by omega, by go_num, rfl, by rw [HSN2.out, HE.out]; simp, by have := HMM.out; simp; omega, by omega, HBD.out, X.out.own, FIN.out w3 X.out.bel⟩
              case measure => simp [intOf]; omega
    · obtain rfl : i = n := by omega
      have e : zs.take i = zs := List.take_of_length_le (by rw [HZ.out.1]; exact Nat.le_refl _)
      rw [e] at hxs
      have X : SortTold w (sortD [] zs) (.returned (.slice aa m cap)) wr := by
        rw [← hxs, ]
        refine ⟨aa, cap, by rw [hm], by rw [hm]; exact hown, hbel⟩
      have X := Lib.hid X
      clear hxs hown hbel hxb e
      go_wp2
      go_ret
      exact X.out
end Go.Proofs.Ytoiknbbimgeihaa
