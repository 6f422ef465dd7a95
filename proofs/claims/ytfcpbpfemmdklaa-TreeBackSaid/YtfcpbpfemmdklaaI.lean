/- How deep the deepest layer stands (28). (printed by genTI.py) -/
import Derived.Test.YtfcpbpfemmdklaaH
namespace Go.Proofs.Ytfcpbpfemmdklaa
open Go.RowKit Go.Shelf
attribute [local go_sem] Oper.semAt_some
set_option linter.unusedSimpArgs false
set_option linter.unusedVariables false

/-- The deepest of spots, at least so deep. -/
def deepS (dep : Nat) (xs : List Spt) : Nat := xs.foldl (fun a x => max a (x.dep + 1)) dep
theorem deepS_snoc (dep : Nat) (xs : List Spt) (x : Spt) : deepS dep (xs ++ [x]) = max (deepS dep xs) (x.dep + 1) := by simp [deepS]
theorem deepS_le {dep n : Nat} : ∀ {xs : List Spt} {a : Nat}, a ≤ n → (∀ x ∈ xs, x.dep + 1 ≤ n) → xs.foldl (fun a x => max a (x.dep + 1)) a ≤ n
  | [], a, h, _ => h
  | x :: xs, a, h, hx => by
    rw [List.foldl_cons]
    exact deepS_le (dep := dep) (by have := hx x (by simp); omega) (fun y hy => hx y (by simp [hy]))
theorem sps_deep : ∀ (m : Nat) (ls : List Loc), SizeOf.sizeOf ls ≤ m → ∀ (hid : Int) (kb ko dep b o i : Nat), ∀ X ∈ sps hid kb ko dep b o i ls, X.dep < dep + cnt ls
  | 0, ls, hs, _, _, _, _, _, _, _, _, _ => by cases ls <;> simp at hs
  | m + 1, [], hs, _, _, _, _, _, _, _, X, hX => by rw [sps] at hX; cases hX
  | m + 1, .mk d p m' q k kids :: ls, hs, hid, kb, ko, dep, b, o, i, X, hX => by
    rw [sps] at hX
    simp only [List.cons.sizeOf_spec, Loc.mk.sizeOf_spec] at hs
    rw [cnt]
    rcases List.mem_cons.1 hX with rfl | hX
    · simp only; omega
    · rcases List.mem_append.1 hX with hX | hX
      · have := sps_deep m kids (by omega) _ _ _ _ _ _ _ X hX
        omega
      · have := sps_deep m ls (by omega) _ _ _ _ _ _ _ X hX
        omega
set_option maxRecDepth 100000 in
set_option maxHeartbeats 3200000 in
theorem deepest_any (hid : Int) (kb ko dep : Nat) (h : Hd) (ls : List Loc) (w : World) (H : Home w kb ko h ls) (hd : dep + cnt ls ≤ 1099511627776) :
    Calls Try.prog 28 #[.agg #[.int .i64 hid, .pointer (some ⟨kb, ko, none⟩), .int .i64 (dep : Int)]] w fun e w' => e = .returned (.int .i64 (deepS dep (sps hid kb ko dep h.b h.o 0 ls) : Int)) ∧ Keeps none' w w' := by
  have H0 := Lib.hid H.low
  have K1 := Lib.hid (((Keeps.refl none' w).alloc (.cells #[.int .i64 hid, .pointer (some ⟨kb, ko, none⟩), .int .i64 (dep : Int)] 65)).alloc (.cells #[.int .i64 (dep : Int)] 3))
  have A1 := Lib.hid ((Hm.new w hid kb ko dep).later ((Keeps.refl none' _).alloc (.cells #[.int .i64 (dep : Int)] 3)))
  have A0 := Lib.hid (Hm.new w hid kb ko dep)
  have N1 := Lib.hid (heap_alloc_new (w.alloc (.cells #[.int .i64 hid, .pointer (some ⟨kb, ko, none⟩), .int .i64 (dep : Int)] 65)) (.cells #[.int .i64 (dep : Int)] 3))
  have hs : (w.alloc (.cells #[.int .i64 hid, .pointer (some ⟨kb, ko, none⟩), .int .i64 (dep : Int)] 65)).heap.size = w.heap.size + 1 := by simp
  rw [hs] at N1
  have ZS := Lib.hid (show ((w.alloc (.cells #[.int .i64 hid, .pointer (some ⟨kb, ko, none⟩), .int .i64 (dep : Int)] 65)).alloc (.cells #[.int .i64 (dep : Int)] 3)).heap.size = w.heap.size + 2 from by simp)
  have HD := Lib.hid hd
  clear H hd hs
  refine (callsIn_wide (n := 2)).1 ?_
  refine callsIn_of_wp_marks Try.func28 rfl trivial ?_ rfl
  simp only [Try.ntmps28, List.size_toArray, List.length_cons, List.length_nil, Nat.reduceAdd, Nat.reduceSub, Array.replicate_succ, Array.replicate_zero, List.push_toArray, List.append_toArray, List.nil_append, List.cons_append]
  have a2 := A0.out.c2
  have c0 := A1.out.c0
  have c1 := A1.out.c1
  have c2 := A1.out.c2
  gi_wp2_with ((refine ⟨trivial, ?_⟩); gi_at_call 40; refine (callsIn_wide.2 (spots_any hid kb ko dep _)).mono ?_; rintro e w8 ⟨rfl, hw8⟩)
  have K8 := Lib.hid (K1.out.alloc (.cells #[.int .i64 hid, .pointer (some ⟨kb, ko, none⟩), .int .i64 (dep : Int)] 65))
  have N8 := Lib.hid (show Nb (((w.alloc (.cells #[.int .i64 hid, .pointer (some ⟨kb, ko, none⟩), .int .i64 (dep : Int)] 65)).alloc (.cells #[.int .i64 (dep : Int)] 3)).alloc (.cells #[.int .i64 hid, .pointer (some ⟨kb, ko, none⟩), .int .i64 (dep : Int)] 65)) (w.heap.size + 1) dep from (Below.heap_alloc _ _ _ (lt_of_block N1.out)).trans N1.out)
  have B8 := Lib.hid (Hm.new ((w.alloc (.cells #[.int .i64 hid, .pointer (some ⟨kb, ko, none⟩), .int .i64 (dep : Int)] 65)).alloc (.cells #[.int .i64 (dep : Int)] 3)) hid kb ko dep)
  rw [ZS.out] at B8
  have Z8 := Lib.hid (show (((w.alloc (.cells #[.int .i64 hid, .pointer (some ⟨kb, ko, none⟩), .int .i64 (dep : Int)] 65)).alloc (.cells #[.int .i64 (dep : Int)] 3)).alloc (.cells #[.int .i64 hid, .pointer (some ⟨kb, ko, none⟩), .int .i64 (dep : Int)] 65)).heap.size = w.heap.size + 3 from by simp)
  clear K1 A1 A0 N1 ZS a2 c0 c1 c2 hw8
  generalize ((w.alloc (.cells #[.int .i64 hid, .pointer (some ⟨kb, ko, none⟩), .int .i64 (dep : Int)] 65)).alloc (.cells #[.int .i64 (dep : Int)] 3)).alloc (.cells #[.int .i64 hid, .pointer (some ⟨kb, ko, none⟩), .int .i64 (dep : Int)] 65) = w8 at *
  have H8 := Lib.hid (H0.out.later K8.out)
  refine wpIn_rangeFunc_ownH rfl (by decide) (gf := 62) (lb := #[.pointer (some ⟨w.heap.size + 2, 0, none⟩)]) rfl trivial (enters_of Try.func62 (by kernel_rfl) rfl) (spots_stops w.heap.size hid kb ko dep h ls (w.heap.size + 2) w8 B8.out H8.out HD.out) KpS.trans (fun W l o o' hl e1 e2 _ => KpS.put W l o o' e1 e2) (Below.refl _ _) (fun _ => rfl)
    (fun pre W => Nb W (w.heap.size + 1) (deepS dep (vals pre) : Int) ∧ Keeps none' w W ∧ w8.heap.size ≤ W.heap.size ∧ deepS dep (vals pre) ≤ 9007199254740992)
    (fun _ _ _ => False)
    (fun pre W W' row hh hg hr => ⟨block_own hh.1 hg hr, keeps_own hh.2.1 (by rw [Z8.out]; omega) hg hr, Nat.le_trans hh.2.2.1 hg.size, hh.2.2.2⟩)
    (fun _ _ _ _ _ hh _ _ => hh)
    ⟨N8.out, K8.out, Nat.le_refl _, by have := HD.out; show dep ≤ _; omega⟩
    (fun x a' W => ∃ Bx, w8.heap.size ≤ Bx ∧ Sp W Bx x.1.hid x.1.kb x.1.ko (x.1.dep : Int) (x.1.i : Int) ∧ a' = { tmps := #[.agg #[.int .i64 hid, .pointer (some ⟨kb, ko, none⟩), .int .i64 (dep : Int)], .pointer (some ⟨w.heap.size, 0, none⟩), .int .i64 0, .pointer (some ⟨w.heap.size + 1, 0, none⟩), .pointer (some ⟨Bx, 0, none⟩), .pointer (some ⟨w.heap.size, 2, none⟩), .int .i64 (dep : Int), .agg #[.int .i64 hid, .pointer (some ⟨kb, ko, none⟩), .int .i64 (dep : Int)], .func (.func 62) #[] #[.pointer (some ⟨w.heap.size + 1 + 1, 0, none⟩)], .agg #[.int .i64 x.1.hid, .pointer (some ⟨x.1.kb, x.1.ko, none⟩), .int .i64 (x.1.dep : Int), .int .i64 (x.1.i : Int)], undef, undef, undef, undef, undef, undef, undef], defers := [] })
    (fun x a' u W W' row hh hg hr => by
      obtain ⟨Bx, q1, q2, q3⟩ := hh
      exact ⟨Bx, q1, block_own q2 hg hr, q3⟩) ?assign ?body ?done ?stop
  case assign =>
    rintro l pre x W K hi hK
    gi_wp2
    have ka := (Keeps.refl none' W).alloc (.cells #[.int .i64 x.1.hid, .pointer (some ⟨x.1.kb, x.1.ko, none⟩), .int .i64 (x.1.dep : Int), .int .i64 (x.1.i : Int)] 67)
    have hKK := hK _ _ (from_keeps ka) (KpS.keeps ka) ⟨hi.1.later ka, hi.2.1.next ka, Nat.le_trans hi.2.2.1 ka.size, hi.2.2.2⟩ ⟨W.heap.size, hi.2.2.1, Sp.new _ _ _ _ _ _, rfl⟩
    simpa [encV] using hKK
  case body =>
    rintro l pre x a' W hl ⟨rr, hrr⟩ ⟨hN, hk, hsz, hle⟩ ⟨Bx, hBx, bX, rfl⟩ hlt
    obtain ⟨x, hv⟩ := x
    have hxd : x.dep ≤ 1099511627776 := by
      obtain ⟨_, _, _, _, _, _, _, h⟩ := hv
      exact h
    simp only at bX ⊢
    obtain ⟨a, ha⟩ : ∃ a, a = deepS dep (vals pre) := ⟨_, rfl⟩
    rw [← ha] at hN hle
    have HA := Lib.hid ha
    have cN := hN.c
    have fN := hN.fr
    have s2 := bX.c2
    have hb0 : (0 : Int) ≤ (x.dep : Int) := by omega
    have hb1 : (x.dep : Int) ≤ 1099511627776 := by omega
    have HX := Lib.hid hxd
    clear ha hxd hrr
    gi_wp2
    all_goals
      have h2 : a = deepS dep (vals pre) := HA.out
      have hx2 := HX.out
      have e : vals (pre ++ [(⟨x, hv⟩ : VS w.heap.size w8)]) = vals pre ++ [x] := by simp [vals]
      refine ⟨(KeepsOthers.setCell _ _ _).from _, kpS_set W (w.heap.size + 1) 0 _ (by omega) (by rw [Z8.out]; omega), ?_, hk.setCell (fun e => by have e' : w.heap.size + 1 < w.heap.size := e; omega) _, by simp [World.setCell]; omega, ?_⟩
      · rw [e, deepS_snoc, ← h2]
        first
          | (rw [show ((max a (x.dep + 1) : Nat) : Int) = (x.dep : Int) + 1 by omega]; exact hN.set _)
          | (rw [show ((max a (x.dep + 1) : Nat) : Int) = (a : Int) by omega]; exact hN.set _)
      · rw [e, deepS_snoc, ← h2]
        omega
  case done =>
    rintro D xs W hD hS ⟨hN, hk, hsz, hle⟩ hK
    rw [hS] at hN
    have cN := hN.c
    clear hle hS
    gi_wp2
    refine ⟨by simp, .inl ⟨_, _, rfl, run_takeDeferred hK, ?_⟩⟩
    refine ⟨.int .i64 (deepS dep (sps hid kb ko dep h.b h.o 0 ls) : Int), ?_, rfl, hk.grown (grownBy_putObj' _ D (.deferred none)) (fun q hq e => by cases e; rw [Z8.out] at hD; omega)⟩
    simp [results, Try.f28, go_sem]
  case stop => exact fun _ _ _ _ _ _ h => h.elim
end Go.Proofs.Ytfcpbpfemmdklaa
