/- Texts of a layer, one behind the other. -/
import Derived.Test.YtfcpbpfemmdklaaGreatMAs
import Derived.Test.YtfcpbpfemmdklaaGreatProg
import Derived.Shelf.Sort.Plain
import Derived.Shelf.Slices.CompactI
import Derived.Shelf.Slices.In.SortNone
import Derived.Test.YtfcpbpfemmdklaaGreatMAa
import Derived.Maps.AppendAt
import Derived.RangeFuncBox
import Derived.Sort.OwnSortedInts
import Derived.Lib.RowBridge
/- A right layer may stand in the document (43). -/
namespace Go.Proofs.YtfcpbpfemmdklaaGreat.Tr
open Go.RowKit Go.Lib
set_option linter.unusedSimpArgs false
set_option linter.unusedVariables false

/-- A layer's rows may be read. -/
structure Rds (w : World) (d : Dat) (p m q : Hd) : Prop where
  pix : ReadR w 3 1 p (ints d.p)
  mask : ReadR w 5 1 m (bytes d.mask)
  pars : ReadR w 3 1 q (ints d.pars)
theorem Rds.later {w w' : World} {d : Dat} {p m q : Hd} (r : Rds w d p m q) (k : Keeps none' w w') : Rds w' d p m q := ⟨r.pix.keep k (fun _ _ h => h), r.mask.keep k (fun _ _ h => h), r.pars.keep k (fun _ _ h => h)⟩
theorem len_of {w : World} {p : Hd} {l : List Int} (h : ReadR w 3 1 p (ints l)) : p.n = l.length := by have := h.1.len; simp [ints] at this; omega
theorem tab_len {n : Int} {l : List Int} (h : tabB n l = true) : l.length ≤ 32 := by
  obtain ⟨-, ⟨_, h, _⟩ | ⟨_, h⟩ | ⟨_, h⟩ | ⟨_, h⟩⟩ := tabB_true.1 h
  · omega
  · exact h.2.1
  · omega
  · omega
theorem kind_right {x y : Int} (b o : Nat) (d : Dat) (p m q k : Hd) (w : World) (H : LayP w b o d p m q k) (R : Rt x y d) (hkids : d.kind ≠ 1 → k.n = 0) (D : Rds w d p m q) :
    Calls Tryz.prog 70 #[.pointer (some ⟨b, o, none⟩)] w fun en w' => en = .returned (.bool true) ∧ Keeps none' w w' := by
  obtain ⟨-, -, -, ⟨k0, PC, NT⟩ | ⟨k1, NP, NT⟩ | ⟨k2, NP, TB, hm⟩⟩ := R
  · exact kind_raster b o d p m q k w H k0 PC NT (len_of D.pars) (hkids (by omega)) D.pix
  · exact kind_group b o d p m q k w H k1 NP NT (len_of D.pix) (len_of D.pars)
  · refine kind_adj b o d p m q k w H k2 NP TB hm (len_of D.pix) (hkids (by omega)) D.pars (in64_fits TB) (by rw [len_of D.pars]; have := tab_len TB; omega)
set_option maxRecDepth 100000 in
set_option maxHeartbeats 1600000 in
theorem has_right (x y z : Int) (h : Hd) (b o : Nat) (d : Dat) (p m q k : Hd) (w : World) (H : LayP w b o d p m q k) (R : Rt x y d) (hid : 1 ≤ d.id ∧ d.id < z) (hxy : -9223372036854775808 ≤ x * y ∧ x * y ≤ 9223372036854775807) (hkids : d.kind ≠ 1 → k.n = 0) (D : Rds w d p m q) :
    Calls Tryz.prog 43 #[docV x y z h, .pointer (some ⟨b, o, none⟩)] w fun en w' => en = .returned (.bool true) ∧ Keeps none' w w' := by
  unfold docV
  have k1 := (Keeps.refl none' w).alloc (.cells #[.int .i64 x, .int .i64 y, .int .i64 z, .slice h.a h.n h.c] 26)
  have K1 := Lib.hid k1
  have A1 := Lib.hid (Dc.new w x y z h)
  have L1 := Lib.hid (H.later k1)
  have D1 := Lib.hid (D.later k1)
  have HR := Lib.hid (And.intro R (And.intro hid (And.intro hxy hkids)))
  clear k1 H D R hid hxy hkids
  go_enter Tryz.func43, Tryz.ntmps43
  go_upto_region 1 with (fail)
  obtain ⟨A, hA⟩ : ∃ A, A = w.heap.size := ⟨_, rfl⟩
  rw [← hA] at A1
  rw [← hA]
  clear hA
  generalize w.alloc (.cells #[.int .i64 x, .int .i64 y, .int .i64 z, .slice h.a h.n h.c] 26) = w1 at *
  have t1 : decide (d.id ≥ 1) = true := by simpa using HR.out.2.1.1
  have t2 : decide (d.id < z) = true := by simpa using HR.out.2.1.2
  have t3 : decide (1 ≤ d.id) = true := by simpa using HR.out.2.1.1
  have u1 := fun w' => upto46 d.op 255 w'
  have u2 := fun w' => upto46 d.mode 11 w'
  rw [show (decide (0 ≤ d.op) && decide (d.op ≤ 255)) = true from HR.out.1.1] at u1
  rw [show (decide (0 ≤ d.mode) && decide (d.mode ≤ 11)) = true from HR.out.1.2.1] at u2
  have U1 := Lib.hid u1
  have U2 := Lib.hid u2
  have ms := mask_right x y z h m d.mask w1.drew (D1.out.mask.keep (Keeps.refl none' w1).drew (fun _ _ h => h)) HR.out.2.2.1 HR.out.1.2.2.1.1 HR.out.1.2.2.1.2
  simp only [docV] at ms
  have MS := Lib.hid ms
  have KR := Lib.hid (fun w' (kk : Keeps none' w1.drew w') => kind_right b o d p m q k w' (L1.out.later ((Keeps.refl none' w1).drew.next kk)) HR.out.1 HR.out.2.2.2 (D1.out.later ((Keeps.refl none' w1).drew.next kk)))
  have SK := Lib.hid (show ∀ w', Keeps none' w1.drew w' → (w'.cell? ⟨A, 0, none⟩ = some (.int .i64 x) ∧ w'.cell? ⟨A, 1, none⟩ = some (.int .i64 y) ∧ w'.cell? ⟨A, 2, none⟩ = some (.int .i64 z) ∧ w'.cell? ⟨A, 3, none⟩ = some (.slice h.a h.n h.c) ∧ w'.cell? ⟨b, o, none⟩ = some (.int .i64 d.id) ∧ w'.cell? ⟨b, o + 3, none⟩ = some (.int .i64 d.op) ∧ w'.cell? ⟨b, o + 4, none⟩ = some (.int .i64 d.mode) ∧ w'.cell? ⟨b, o + 8, none⟩ = some (.slice m.a m.n m.c)) from fun w' kk => by
    have kk2 := (Keeps.refl none' w1).drew.next kk
    have L := L1.out.later kk2
    have AA := A1.out.later kk2
    exact ⟨AA.c0, AA.c1, AA.c2, AA.c3, L 0 _ rfl, L 3 _ rfl, L 4 _ rfl, L 8 _ rfl⟩)
  have c0 := A1.out.c0
  have c1 := A1.out.c1
  have c2 := A1.out.c2
  have c3 := A1.out.c3
  have l0 : w1.cell? ⟨b, o, none⟩ = some (.int .i64 d.id) := L1.out 0 _ rfl
  have l3 := L1.out 3 _ rfl
  have l4 := L1.out 4 _ rfl
  have l8 := L1.out 8 _ rfl
  clear u1 u2 ms
  go_region_held3 (fun w' => w'.cell? ⟨A, 0, none⟩ = some (.int .i64 x) ∧ w'.cell? ⟨A, 1, none⟩ = some (.int .i64 y) ∧ w'.cell? ⟨A, 2, none⟩ = some (.int .i64 z) ∧ w'.cell? ⟨A, 3, none⟩ = some (.slice h.a h.n h.c) ∧ w'.cell? ⟨b, o, none⟩ = some (.int .i64 d.id) ∧ w'.cell? ⟨b, o + 3, none⟩ = some (.int .i64 d.op) ∧ w'.cell? ⟨b, o + 4, none⟩ = some (.int .i64 d.mode) ∧ w'.cell? ⟨b, o + 8, none⟩ = some (.slice m.a m.n m.c)) (first | exact SK.out _ (Keeps.refl _ _) | exact SK.out _ hk2 | exact SK.out _ hk1)
    (first
    | (go_at_call 68; with_reducible refine (U1.out _).mono ?_; rintro e w' ⟨rfl, hw⟩; subst hw)
    | (go_at_call 68; with_reducible refine (U2.out _).mono ?_; rintro e w' ⟨rfl, hw⟩; subst hw)
    | (go_at_call 69; with_reducible refine MS.out.mono ?_; rintro e w2 ⟨rfl, hk1⟩)
    | (go_at_call 70; with_reducible refine (KR.out w2 hk1).mono ?_; rintro e w3 ⟨rfl, hkk⟩; have hk2 := Keeps.next hk1 hkk))
  all_goals
    go_wp2_with fail
    go_ret
    exact ⟨rfl, K1.out.next ((Keeps.refl none' w1).drew.next hk2)⟩
end Go.Proofs.YtfcpbpfemmdklaaGreat.Tr

/- slices.Sort and slices.Compact of whole numbers: the library's own text, as it lies in this program. -/
namespace Go.Proofs.YtfcpbpfemmdklaaGreat
open Go.Shelf
def sortL_ren : Go.Shelf.Ren := ⟨fun | 189 => 71 | 125 => 100 | 257 => 99 | 128 => 127 | 129 => 128 | 294 => 118 | 295 => 119 | 296 => 120 | 297 => 121 | 298 => 122 | 299 => 123 | 216 => 124 | 300 => 125 | 301 => 126 | 328 => 140 | 329 => 141 | 330 => 142 | 331 => 143 | 332 => 144 | 215 => 145 | 343 => 155 | n => n, fun | 28 => 33 | 3 => 3 | 46 => 135 | 0 => 0 | 51 => 157 | 53 => 159 | 4 => 4 | 183 => 150 | 182 => 149 | 131 => 154 | 5 => 5 | 9 => 9 | 218 => 169 | 222 => 173 | 228 => 179 | 229 => 145 | n => n, fun | n => n⟩
theorem sortL : Go.Proofs.Lays.n189 Tryz.prog sortL_ren := {
  mixed := by kernel_rfl
  f125 := Tryz.func100.trans (congrArg some (by kernel_rfl))
  f128 := Tryz.func127.trans (congrArg some (by kernel_rfl))
  f129 := Tryz.func128.trans (congrArg some (by kernel_rfl))
  f189 := Tryz.func71.trans (congrArg some (by kernel_rfl))
  f215 := Tryz.func145.trans (congrArg some (by kernel_rfl))
  f216 := Tryz.func124.trans (congrArg some (by kernel_rfl))
  f257 := Tryz.func99.trans (congrArg some (by kernel_rfl))
  f294 := Tryz.func118.trans (congrArg some (by kernel_rfl))
  f295 := Tryz.func119.trans (congrArg some (by kernel_rfl))
  f296 := Tryz.func120.trans (congrArg some (by kernel_rfl))
  f297 := Tryz.func121.trans (congrArg some (by kernel_rfl))
  f298 := Tryz.func122.trans (congrArg some (by kernel_rfl))
  f299 := Tryz.func123.trans (congrArg some (by kernel_rfl))
  f300 := Tryz.func125.trans (congrArg some (by kernel_rfl))
  f301 := Tryz.func126.trans (congrArg some (by kernel_rfl))
  f328 := Tryz.func140.trans (congrArg some (by kernel_rfl))
  f329 := Tryz.func141.trans (congrArg some (by kernel_rfl))
  f330 := Tryz.func142.trans (congrArg some (by kernel_rfl))
  f331 := Tryz.func143.trans (congrArg some (by kernel_rfl))
  f332 := Tryz.func144.trans (congrArg some (by kernel_rfl))
  f343 := Tryz.func155.trans (congrArg some (by kernel_rfl))
  t0 := Tryz.underlying0
  a0 := Tryz.isAgg0
  z0 := Tryz.sizeOf0
  v0 := Tryz.zeroValue0
  t3 := Tryz.underlying3
  a3 := Tryz.isAgg3
  z3 := Tryz.sizeOf3
  v3 := Tryz.zeroValue3
  t4 := Tryz.underlying4
  a4 := Tryz.isAgg4
  z4 := Tryz.sizeOf4
  v4 := Tryz.zeroValue4
  t5 := Tryz.underlying5
  a5 := Tryz.isAgg5
  z5 := Tryz.sizeOf5
  v5 := Tryz.zeroValue5
  t9 := Tryz.underlying9
  a9 := Tryz.isAgg9
  z9 := Tryz.sizeOf9
  v9 := Tryz.zeroValue9
  t28 := Tryz.underlying33
  a28 := Tryz.isAgg33
  z28 := Tryz.sizeOf33
  v28 := Tryz.zeroValue33
  t46 := Tryz.underlying135
  a46 := Tryz.isAgg135
  z46 := Tryz.sizeOf135
  v46 := Tryz.zeroValue135
  t51 := Tryz.underlying157
  a51 := Tryz.isAgg157
  z51 := Tryz.sizeOf157
  v51 := Tryz.zeroValue157
  t53 := Tryz.underlying159
  a53 := Tryz.isAgg159
  z53 := Tryz.sizeOf159
  v53 := Tryz.zeroValue159
  t131 := Tryz.underlying154
  a131 := Tryz.isAgg154
  z131 := Tryz.sizeOf154
  v131 := Tryz.zeroValue154
  t182 := Tryz.underlying149
  a182 := Tryz.isAgg149
  z182 := Tryz.sizeOf149
  v182 := Tryz.zeroValue149
  t183 := Tryz.underlying150
  a183 := Tryz.isAgg150
  z183 := Tryz.sizeOf150
  v183 := Tryz.zeroValue150
  t218 := Tryz.underlying169
  a218 := Tryz.isAgg169
  z218 := Tryz.sizeOf169
  v218 := Tryz.zeroValue169
  t222 := Tryz.underlying173
  a222 := Tryz.isAgg173
  z222 := Tryz.sizeOf173
  v222 := Tryz.zeroValue173
  t228 := Tryz.underlying179
  a228 := Tryz.isAgg179
  z228 := Tryz.sizeOf179
  v228 := Tryz.zeroValue179
  t229 := Tryz.underlying145
  a229 := Tryz.isAgg145
  z229 := Tryz.sizeOf145
  v229 := Tryz.zeroValue145 }
def compactL_ren : Go.Shelf.Ren := ⟨fun | 20 => 72 | n => n, fun | 22 => 33 | 3 => 3 | 4 => 4 | 0 => 0 | n => n, fun | n => n⟩
theorem compactL : Go.Proofs.Lays2.n20 Tryz.prog compactL_ren := {
  mixed := by kernel_rfl
  f20 := Tryz.func72.trans (congrArg some (by kernel_rfl))
  t0 := Tryz.underlying0
  a0 := Tryz.isAgg0
  z0 := Tryz.sizeOf0
  v0 := Tryz.zeroValue0
  t3 := Tryz.underlying3
  a3 := Tryz.isAgg3
  z3 := Tryz.sizeOf3
  v3 := Tryz.zeroValue3
  t4 := Tryz.underlying4
  a4 := Tryz.isAgg4
  z4 := Tryz.sizeOf4
  v4 := Tryz.zeroValue4
  t22 := Tryz.underlying33
  a22 := Tryz.isAgg33
  z22 := Tryz.sizeOf33
  v22 := Tryz.zeroValue33
  i3 := by kernel_rfl }
end Go.Proofs.YtfcpbpfemmdklaaGreat

/- Numbers appended one by one; numbers that differ (44). -/
namespace Go.Proofs.YtfcpbpfemmdklaaGreat.Tr
open Go.RowKit Go.Lib
set_option linter.unusedSimpArgs false
set_option linter.unusedVariables false

/-- Numbers no two of which are one are left as they are. -/
theorem compact_nodup (zs : List Int) (h : zs.Nodup) : Lib.compact zs = zs := by
  refine Lib.compact_all zs fun j hj => ?_
  unfold Lib.keeps
  rw [decide_eq_true_eq]
  by_cases h0 : j = 0
  · exact .inl h0
  · refine .inr ?_
    rw [getElem!_pos zs.toArray j (by simpa using hj), getElem!_pos zs.toArray (j - 1) (by simp; omega)]
    simp only [List.getElem_toArray]
    intro e
    exact List.pairwise_iff_getElem.1 h (j - 1) j (by omega) hj (by omega) e.symm
theorem sort_none (p : Option Addr) (cap : Nat) (w : World) : Calls Tryz.prog 71 #[.slice p 0 cap] w fun e w' => e = .returned (.tuple #[]) ∧ w' = w :=
  Any.slices_Sort_int_none sortL p cap w
set_option maxRecDepth 100000 in
set_option maxHeartbeats 1600000 in
/-- Numbers that differ. -/
theorem diff_any (B n : Nat) (v : Value) (xs : List Int) (w : World) (hown : w.ownsRow B 3 1 v n (ints xs)) (hnd : xs.Nodup) (hn : n ≤ 1099511627776) :
    Calls Tryz.prog 44 #[v] w fun en w' => en = .returned (.bool true) ∧ w.grownBy w' v.ownBlock := by
  have hlen : xs.length = n := by have := hown.1; simp [ints] at this; omega
  rcases hown.2 with ⟨rfl, h0⟩ | ⟨g, cap, cur, rfl, hB, hg, h1, h2, h3, h4⟩
  · have S := Lib.hid (fun w' => sort_none none 0 w')
    have C := Lib.hid (fun w' => (Any.slices_Compact_int_empty compactL none 0 w' : Calls Tryz.prog 72 _ _ _))
    clear hown hnd hn hlen h0
    go_enter Tryz.func44, Tryz.ntmps44
    go_wp2_with (first
      | (go_at_call 71; refine (S.out _).mono ?_; rintro e w' ⟨rfl, rfl⟩)
      | (go_at_call 72; refine (C.out _).mono ?_; rintro e w' ⟨rfl, rfl⟩))
    go_ret
    exact ⟨rfl, rfl, rfl, rfl, Nat.le_refl _, fun _ _ _ => rfl⟩
  · subst hlen
    have hH := holds_of_blockI (ss := xs) hg (by rw [Nat.mul_one] at h4; exact h4)
    have hgl := lt_of_block hg
    have S := Lib.hid (Any.slices_Sort_int sortL g 0 cap xs w hH hgl (by omega) : Calls Tryz.prog 71 _ _ _)
    have hl2 : (xs.mergeSort fun x y => decide (x ≤ y)).length = xs.length := List.length_mergeSort xs
    have hd2 : (xs.mergeSort fun x y => decide (x ≤ y)).Nodup := (List.mergeSort_perm xs _).nodup_iff.2 hnd
    have hc := compact_nodup _ hd2
    have C := Lib.hid (fun (m : Nat) (os : Array Obj) => show Calls Tryz.prog 72 #[.slice (some ⟨g, 0, none⟩) xs.length cap] (Sort.grow (Sort.putRow (Value.int .i64) (Sort.ahead w m) g 0 (xs.mergeSort fun x y => decide (x ≤ y)).toArray) os) (fun e w' => e = .returned (.slice (some ⟨g, 0, none⟩) xs.length cap) ∧ w.grownBy w' (some g)) from by
      have hg2 := heap_sortedI (n := m) (os := os) (xs.mergeSort fun x y => decide (x ≤ y)).toArray hg
      have hH2 : Sort.Holds (Value.int .i64) (Sort.grow (Sort.putRow (Value.int .i64) (Sort.ahead w m) g 0 (xs.mergeSort fun x y => decide (x ≤ y)).toArray) os) g 0 (xs.mergeSort fun x y => decide (x ≤ y)).toArray := by
        refine holds_of_blockI hg2 ?_
        exact take_putCellsI cur _ (by rw [hl2]; omega)
      have hk := Any.slices_Compact_int compactL g 0 cap (xs.mergeSort fun x y => decide (x ≤ y)) _ hH2 (by rw [hl2]; omega) (by rw [hl2]; exact h1)
      rw [hl2, hc, hl2] at hk
      refine Calls.mono hk ?_
      rintro e w' ⟨rfl, q, rfl⟩
      refine ⟨rfl, ?_⟩
      have a1 := grownBy_sortedI (w := w) (g := g) (n := m) (os := os) (xs.mergeSort fun x y => decide (x ≤ y)).toArray
      refine ⟨a1.os, a1.tape, a1.output, ?_, fun k hk hne => ?_⟩
      · simp [Sort.putRow, Sort.mapBlock, Sort.ahead, Sort.grow]; 
      · have hgk : g ≠ k := fun e => hne (by rw [e])
        refine Eq.trans ?_ (a1.block k hk hne)
        simp [Sort.putRow, Sort.mapBlock, Sort.ahead, Array.getElem?_modify, hgk])
    clear hown hnd hn hH hg h1 h2 h3 h4 hB hgl hl2 hd2 hc
    go_enter Tryz.func44, Tryz.ntmps44
    go_wp2_with (first
      | (go_at_call 71; refine S.out.mono ?_; rintro e w' ⟨rfl, m, os, rfl⟩)
      | (go_at_call 72; refine (C.out _ _).mono ?_; rintro e w' ⟨rfl, hgr⟩))
    go_ret
    exact ⟨rfl, hgr⟩
end Go.Proofs.YtfcpbpfemmdklaaGreat.Tr

/- The iterator over all layers, told which ones come. -/
namespace Go.Proofs.YtfcpbpfemmdklaaGreat.Tr
open Go.RowKit Go.Shelf
attribute [local go_sem] Oper.semAt_some
set_option linter.unusedSimpArgs false
set_option linter.unusedVariables false

/-- What tell does, for layers. -/
def TellsT (ALL : List Spt) (w0 : World) (l n₀ n₁ N : Nat) (J Jx : List Spt → World → Prop) (ls : List Loc) : Prop :=
  ∀ (n : Nat) (hid : Int) (kb ko dep : Nat) (h : Hd) (pre : List Spt) (W : World), HomeN n₀ w0 kb ko h ls → HomeN n₀ W kb ko h ls → J pre W → n₁ ≤ W.heap.size → dep + cnt ls ≤ 1099511627776 → pre.length + cnt ls ≤ N → pre ++ sps hid kb ko dep h.b h.o 0 ls <+: ALL →
    CallsIn Fence.wide n Tryz.prog 67 #[.agg #[.int .i64 hid, .pointer (some ⟨kb, ko, none⟩), .int .i64 (dep : Int)], .func (.yield l) #[] #[]] W fun e W' =>
      (e = .returned (.bool true) ∧ J (pre ++ sps hid kb ko dep h.b h.o 0 ls) W' ∧ KpS n₀ n₁ W W') ∨ (e = .returned (.bool false) ∧ ∃ q, q <+: sps hid kb ko dep h.b h.o 0 ls ∧ Jx (pre ++ q) W')
set_option maxRecDepth 100000 in
set_option maxHeartbeats 1600000 in
theorem tellsT_of (ALL : List Spt) (w0 : World) (l n₀ n₁ N : Nat) (J Jx : List Spt → World → Prop) (hJ : ∀ s W W', J s W → Keeps none' W W' → J s W')
    (hY : ∀ m pre x W, Vld n₀ w0 x → J pre W → n₁ ≤ W.heap.size → pre.length < N → pre ++ [x] <+: ALL → YieldAt Fence.wide m Tryz.prog l (encS x) W fun e W' =>
      (e = .returned (.bool true) ∧ J (pre ++ [x]) W' ∧ KpS n₀ n₁ W W') ∨ (e = .returned (.bool false) ∧ Jx (pre ++ [x]) W'))
    (ls : List Loc) (IH : ∀ x ∈ ls, TellsT ALL w0 l n₀ n₁ N J Jx x.kids) : TellsT ALL w0 l n₀ n₁ N J Jx ls := by
  intro n hid kb ko dep h pre W h00 hH hJ0 hn1 hdep hlen hall
  have HALL := Lib.hid hall
  have H00 := Lib.hid h00
  have HH := Lib.hid hH
  have HJ := Lib.hid hJ
  have HY := Lib.hid hY
  have HI := Lib.hid IH
  have J0 := Lib.hid (hJ _ _ _ hJ0 ((Keeps.refl none' W).alloc (.cells #[.int .i64 hid, .pointer (some ⟨kb, ko, none⟩), .int .i64 (dep : Int)] 84)))
  have HB := Lib.hid (And.intro hdep (And.intro hlen hn1))
  have B0 := Lib.hid (Hm.new W hid kb ko dep)
  have K0 := Lib.hid ((Keeps.refl none' W).alloc (.cells #[.int .i64 hid, .pointer (some ⟨kb, ko, none⟩), .int .i64 (dep : Int)] 84))
  have H1 := Lib.hid (hH.kp (n₁ := n₁) (KpS.keeps K0.out))
  have b1 := B0.out.c1
  have hp := H1.out.home.ptr
  have HN := Lib.hid (And.intro hH.home.len hH.home.row.2)
  obtain ⟨ha, n', c'⟩ := h
  clear h00 hH hJ hY IH hJ0 hdep hlen hn1 hall
  refine callsIn_of_wp Tryz.func67 rfl trivial ?_ rfl
  simp only [Tryz.ntmps67, List.size_toArray, List.length_cons, List.length_nil, Nat.reduceAdd, Nat.reduceSub, Array.replicate_succ, Array.replicate_zero, List.push_toArray, List.append_toArray, List.nil_append, List.cons_append]
  gi_wp2
  obtain ⟨S, hS⟩ : ∃ S, S = W.heap.size := ⟨_, rfl⟩
  have SZ := Lib.hid hS
  rw [← hS] at B0
  rw [← hS]
  generalize W.alloc (.cells #[.int .i64 hid, .pointer (some ⟨kb, ko, none⟩), .int .i64 (dep : Int)] 84) = W1 at *
  clear hS b1 hp
  gi_loopw [12] (fun cnt_ wr => ∃ j : Nat, j ≤ n' ∧ cnt_ = .int .i64 j ∧ J (pre ++ sps hid kb ko dep (Hd.b ⟨ha, n', c'⟩) (Hd.o ⟨ha, n', c'⟩) 0 (ls.take j)) wr ∧ HomeN n₀ wr kb ko ⟨ha, n', c'⟩ ls ∧ Hm wr S hid kb ko dep ∧ KpS n₀ n₁ W wr) (fun cnt_ _ => n' - (intOf cnt_).toNat)
  case atStart => exact ⟨0, Nat.zero_le _, rfl, by rw [List.take_zero, sps, List.append_nil]; exact J0.out, H1.out, B0.out, KpS.keeps K0.out⟩
  case round =>
    clear J0 B0 K0 H1 HH
    obtain ⟨j, hj, rfl, r1, r2, r3, r4⟩ := hrel
    have RJ := Lib.hid r1
    have RH := Lib.hid r2
    have RB := Lib.hid r3
    have RK := Lib.hid r4
    clear r1 r2 r3 r4
    have hnl : n' = ls.length := HN.out.1
    have hn9 : n' ≤ 536870912 := HN.out.2
    by_cases hlt : j < n'
    · have hjj : (j : Int) < n' := by omega
      obtain ⟨x, hx⟩ : ∃ x, ls[j]? = some x := ⟨_, List.getElem?_eq_getElem (by omega)⟩
      have HX := Lib.hid hx
      obtain ⟨b, o, hab, -⟩ := RH.out.home.lies (by omega)
      have hab2 : ha = some ⟨b, o, none⟩ := hab
      subst hab2
      clear hab
      clear hx hnl
      have b0 := RB.out.c0
      have b1 := RB.out.c1
      have b2 := RB.out.c2
      obtain ⟨P, hP⟩ : ∃ P, P = sps hid kb ko dep (Hd.b ⟨some ⟨b, o, none⟩, n', c'⟩) (Hd.o ⟨some ⟨b, o, none⟩, n', c'⟩) 0 (ls.take j) := ⟨_, rfl⟩
      obtain ⟨X, hX⟩ : ∃ X : Spt, X = ⟨hid, kb, ko, dep, j, x, b, o + j * 19⟩ := ⟨_, rfl⟩
      have MORE := Lib.hid (show sps hid kb ko dep (Hd.b ⟨some ⟨b, o, none⟩, n', c'⟩) (Hd.o ⟨some ⟨b, o, none⟩, n', c'⟩) 0 (ls.take (j + 1)) = P ++ (X :: sps x.dat.id b (o + j * 19 + 18) (dep + 1) x.kh.b x.kh.o 0 x.kids) from by rw [hP, hX]; exact sps_more hid kb ko dep b o HX.out)
      have PRE := Lib.hid (show sps hid kb ko dep (Hd.b ⟨some ⟨b, o, none⟩, n', c'⟩) (Hd.o ⟨some ⟨b, o, none⟩, n', c'⟩) 0 (ls.take (j + 1)) <+: sps hid kb ko dep (Hd.b ⟨some ⟨b, o, none⟩, n', c'⟩) (Hd.o ⟨some ⟨b, o, none⟩, n', c'⟩) 0 ls from by
        refine ⟨sps hid kb ko dep (Hd.b ⟨some ⟨b, o, none⟩, n', c'⟩) (Hd.o ⟨some ⟨b, o, none⟩, n', c'⟩) (0 + (ls.take (j + 1)).length) (ls.drop (j + 1)), ?_⟩
        rw [← sps_append, List.take_append_drop])
      have CNT := Lib.hid (cnt_at HX.out)
      have LEN := Lib.hid (show P.length = cnt (ls.take j) from by rw [hP, sps_length])
      have KIDS := Lib.hid (show pre ++ P ++ [X] ++ sps x.dat.id b (o + j * 19 + 18) (dep + 1) x.kh.b x.kh.o 0 x.kids <+: ALL from by
        refine List.IsPrefix.trans ?_ HALL.out
        rw [List.append_assoc, List.append_assoc]
        refine List.prefix_append_right_inj _ |>.2 ?_
        have e := MORE.out
        rw [List.singleton_append, ← e]
        exact PRE.out)
      rw [← hP] at RJ
      clear hP
      have K2 := Lib.hid ((Keeps.refl none' wr).alloc (.cells #[.int .i64 hid, .pointer (some ⟨kb, ko, none⟩), .int .i64 (dep : Int), .int .i64 (j : Int)] 86))
      have J2 := Lib.hid (HJ.out _ _ _ RJ.out K2.out)
      have T2 := Lib.hid (Sp.new wr hid kb ko dep j)
      have N2 := Lib.hid (show n₁ ≤ wr.heap.size from by have := HB.out.2.2; have := RK.out.size; omega)
      have N3 := Lib.hid (show n₁ ≤ (wr.alloc (.cells #[.int .i64 hid, .pointer (some ⟨kb, ko, none⟩), .int .i64 (dep : Int), .int .i64 (j : Int)] 86)).heap.size from by have := N2.out; have := K2.out.size; omega)
      have H2 := Lib.hid (RH.out.kp (n₁ := n₁) (KpS.keeps K2.out))
      have B2 := Lib.hid (RB.out.later K2.out)
      have KK2 := Lib.hid (RK.out.trans (KpS.keeps K2.out))
      have SB := Lib.hid (show n₁ ≤ S from by rw [SZ.out]; exact HB.out.2.2)
      obtain ⟨fn, tmps, assign, body, hy, hR⟩ := HY.out (n - 1) (pre ++ P) X (wr.alloc (.cells #[.int .i64 hid, .pointer (some ⟨kb, ko, none⟩), .int .i64 (dep : Int), .int .i64 (j : Int)] 86)) (by rw [hX]; exact ⟨_, ls, o, H00.out, HX.out, rfl, rfl, by have := HB.out.1; show dep ≤ _; omega⟩) J2.out N3.out (by rw [List.length_append]; have := LEN.out; have := CNT.out; have := HB.out.2.1; omega) (by
        refine List.IsPrefix.trans ?_ HALL.out
        rw [List.append_assoc]
        refine List.prefix_append_right_inj _ |>.2 (List.IsPrefix.trans ⟨sps x.dat.id b (o + j * 19 + 18) (dep + 1) x.kh.b x.kh.o 0 x.kids, ?_⟩ PRE.out)
        rw [MORE.out]
        simp [List.append_assoc])
      rw [hX] at hy
      dsimp only [encS] at hy
      clear hX RJ RH RB
      obtain ⟨T, hT⟩ : ∃ T, T = wr.heap.size := ⟨_, rfl⟩
      have ET := Lib.hid hT
      gi_wp2
      rw [← hT]
      rw [← hT] at T2
      clear hT b0 b1 b2
      generalize wr.alloc (.cells #[.int .i64 hid, .pointer (some ⟨kb, ko, none⟩), .int .i64 (dep : Int), .int .i64 (j : Int)] 86) = w2 at *
      refine ⟨fun h => (by cases h), hR.mono ?_⟩
      rintro e w3 (⟨rfl, hJ3, hk3⟩ | ⟨rfl, hJx3⟩)
      · have T3 := Lib.hid (show Sp w3 T hid kb ko dep j from (hk3.block T _ _ _ T2.out (.inr ⟨by rw [ET.out]; exact N2.out, by decide⟩)).trans T2.out)
        have B3 := Lib.hid (show Hm w3 S hid kb ko dep from (hk3.block S _ _ _ B2.out (.inr ⟨SB.out, by decide⟩)).trans B2.out)
        have H3 := Lib.hid (H2.out.kp hk3)
        have KK3 := Lib.hid (KK2.out.trans hk3)
        have J3 := Lib.hid hJ3
        have s0 := T3.out.c0
        have s1 := T3.out.c1
        have s2 := T3.out.c2
        have s3 := T3.out.c3
        have N5 := Lib.hid (show n₁ ≤ w3.heap.size from Nat.le_trans N3.out hk3.size)
        have WI := Lib.hid (within_any hid kb ko dep ⟨some ⟨b, o, none⟩, n', c'⟩ ls j x b o w3 H3.out.home rfl HX.out (by have := HB.out.1; omega))
        clear hJ3 hk3 hR
        gi_wp2_with (first
          | ((refine ⟨trivial, fun h => (by cases h), ?_⟩); gi_at_call 95; refine (callsIn_wide.2 WI.out).mono ?_; clear WI; rintro e w4 ⟨rfl, hk4⟩; have J4 := Lib.hid (HJ.out _ _ _ J3.out hk4); have H4 := Lib.hid (H3.out.kp (n₁ := n₁) (KpS.keeps hk4)); have B4 := Lib.hid (B3.out.later hk4); have KK4 := Lib.hid (KK3.out.trans (KpS.keeps hk4)); have N6 := Lib.hid (show n₁ ≤ w4.heap.size from Nat.le_trans N5.out hk4.size); clear hk4; clear J3 H3 KK3)
          | ((refine ⟨trivial, fun h => (by cases h), ?_⟩); gi_at_call 67; refine (HI.out x (List.mem_of_getElem? HX.out) (n - 1) x.dat.id b (o + j * 19 + 18) (dep + 1) x.kh (pre ++ P ++ [X]) w4 (H00.out.kids rfl HX.out) (H4.out.kids rfl HX.out) J4.out N6.out (by have := HB.out.1; have := CNT.out; omega) (by rw [List.length_append, List.length_append, List.length_singleton]; have := LEN.out; have := CNT.out; have := HB.out.2.1; omega) KIDS.out).mono ?_; rintro e w5 (⟨rfl, hJ5, hk5⟩ | ⟨rfl, q, hq, hx5⟩)))
        · have J6 := Lib.hid (show J (pre ++ sps hid kb ko dep (Hd.b ⟨some ⟨b, o, none⟩, n', c'⟩) (Hd.o ⟨some ⟨b, o, none⟩, n', c'⟩) 0 (ls.take (j + 1))) w5 from by
            rw [MORE.out]
            simpa [List.append_assoc] using hJ5)
          have H6 := Lib.hid (H4.out.kp hk5)
          have B6 := Lib.hid (show Hm w5 S hid kb ko dep from (hk5.block S _ _ _ B4.out (.inr ⟨SB.out, by decide⟩)).trans B4.out)
          have KK6 := Lib.hid (KK4.out.trans hk5)
          clear hJ5 hk5
          go_roundw
          case rel => exact ⟨j + 1, by omega, by go_num, J6.out, H6.out, B6.out, KK6.out⟩
          case measure => simp [intOf]; omega
        · go_ret
          refine .inr ⟨rfl, P ++ (X :: q), ?_, by simpa [List.append_assoc] using hx5⟩
          obtain ⟨r, hr⟩ := hq
          refine List.IsPrefix.trans ⟨r, ?_⟩ PRE.out
          rw [MORE.out, ← hr]
          simp [List.append_assoc]
      · gi_wp2
        refine ⟨trivial, ?_⟩
        gi_wp2
        refine ⟨trivial, ?_⟩
        gi_wp2
        go_ret
        refine .inr ⟨rfl, P ++ [X], ?_, by simpa [List.append_assoc] using hJx3⟩
        refine List.IsPrefix.trans ⟨sps x.dat.id b (o + j * 19 + 18) (dep + 1) x.kh.b x.kh.o 0 x.kids, ?_⟩ PRE.out
        rw [MORE.out]
        simp [List.append_assoc]
    · obtain rfl : j = n' := by omega
      have t8 : decide (j < j) = false := by simp
      have htk : ls.take j = ls := List.take_of_length_le (by omega)
      rw [htk] at RJ
      clear htk hnl
      gi_wp2
      go_ret
      exact .inl ⟨rfl, RJ.out, RK.out⟩
theorem tellsT_fuel (ALL : List Spt) (w0 : World) (l n₀ n₁ N : Nat) (J Jx : List Spt → World → Prop) (hJ : ∀ s W W', J s W → Keeps none' W W' → J s W')
    (hY : ∀ m pre x W, Vld n₀ w0 x → J pre W → n₁ ≤ W.heap.size → pre.length < N → pre ++ [x] <+: ALL → YieldAt Fence.wide m Tryz.prog l (encS x) W fun e W' =>
      (e = .returned (.bool true) ∧ J (pre ++ [x]) W' ∧ KpS n₀ n₁ W W') ∨ (e = .returned (.bool false) ∧ Jx (pre ++ [x]) W')) : ∀ (n : Nat) (ls : List Loc), SizeOf.sizeOf ls ≤ n → TellsT ALL w0 l n₀ n₁ N J Jx ls
  | 0, ls, h => by cases ls <;> simp at h
  | n + 1, ls, h => tellsT_of ALL w0 l n₀ n₁ N J Jx hJ hY ls (fun x hx => by
    cases x with
    | mk d p m q k kids =>
      have hs := List.sizeOf_lt_of_mem hx
      simp only [Loc.mk.sizeOf_spec] at hs
      exact tellsT_fuel ALL w0 l n₀ n₁ N J Jx hJ hY n kids (by omega))
/-- tell hands over all layers, each ahead of the ones within it, until one is enough. -/
theorem tellsT_any (ALL : List Spt) (w0 : World) (l n₀ n₁ N : Nat) (J Jx : List Spt → World → Prop) (hJ : ∀ s W W', J s W → Keeps none' W W' → J s W')
    (hY : ∀ m pre x W, Vld n₀ w0 x → J pre W → n₁ ≤ W.heap.size → pre.length < N → pre ++ [x] <+: ALL → YieldAt Fence.wide m Tryz.prog l (encS x) W fun e W' =>
      (e = .returned (.bool true) ∧ J (pre ++ [x]) W' ∧ KpS n₀ n₁ W W') ∨ (e = .returned (.bool false) ∧ Jx (pre ++ [x]) W')) (ls : List Loc) : TellsT ALL w0 l n₀ n₁ N J Jx ls := tellsT_fuel ALL w0 l n₀ n₁ N J Jx hJ hY _ ls (Nat.le_refl _)
/-- Spots that are ones. -/
abbrev VT (T : List Spt) (n₀ : Nat) (w0 : World) := { x : Spt // Vld n₀ w0 x ∧ x ∈ T }
abbrev encT {T : List Spt} {n₀ : Nat} {w0 : World} (x : VT T n₀ w0) : Array Value := #[.agg #[.int .i64 x.1.hid, .pointer (some ⟨x.1.kb, x.1.ko, none⟩), .int .i64 (x.1.dep : Int), .int .i64 (x.1.i : Int)]]
def valsT {T : List Spt} {n₀ : Nat} {w0 : World} (xs : List (VT T n₀ w0)) : List Spt := xs.map (·.1)
set_option maxRecDepth 100000 in
set_option maxHeartbeats 1600000 in
/-- The iterator over all layers within a home. -/
theorem spotsT_stops (n₀ : Nat) (hid : Int) (kb ko dep : Nat) (h : Hd) (ls : List Loc) (B : Nat) (w : World) (hB : Hm w B hid kb ko dep) (H : HomeN n₀ w kb ko h ls) (hd : dep + cnt ls ≤ 1099511627776) :
    SeqStopsK Fence.wide 1 Tryz.prog 66 #[.pointer (some ⟨B, 0, none⟩)] (encT (T := sps hid kb ko dep h.b h.o 0 ls) (n₀ := n₀) (w0 := w)) (KpS n₀ w.heap.size) (fun xs => valsT xs = sps hid kb ko dep h.b h.o 0 ls) (fun pre => valsT pre <+: sps hid kb ko dep h.b h.o 0 ls) (cnt ls) w := by
  intro l J Jx W hW hJ hJx hY h0
  have TT := Lib.hid (tellsT_any (sps hid kb ko dep h.b h.o 0 ls) w l n₀ w.heap.size (cnt ls) (fun pre W1 => ∃ q : List (VT (sps hid kb ko dep h.b h.o 0 ls) n₀ w), valsT q = pre ∧ J q W1) (fun pre W1 => ∃ q : List (VT (sps hid kb ko dep h.b h.o 0 ls) n₀ w), valsT q = pre ∧ Jx q W1)
    (fun s W1 W2 ⟨q, e, hs⟩ k => ⟨q, e, hJ q W1 W2 none hs k.grownBy (fun r e => by cases e)⟩)
    (fun m pre x W1 hv ⟨q, e, hj⟩ _ hl hp => (yield_any rfl m (hY q ⟨x, hv, hp.subset (by simp)⟩ W1 hj (by rw [← e] at hl; simpa [valsT] using hl))).mono (fun e2 W2 h2 => h2.elim (fun h3 => .inl ⟨h3.1, ⟨_, by subst e; simp [valsT], h3.2.1⟩, h3.2.2⟩) (fun h3 => .inr ⟨h3.1, ⟨_, by subst e; simp [valsT], h3.2⟩⟩))) ls 0 hid kb ko dep h [] W H (H.later (keeps_of_below hW)) ⟨[], rfl, h0⟩ hW.size hd (by simp) (by simp))
  have b0 := (hB.later (keeps_of_below hW)).c0
  have b1 := (hB.later (keeps_of_below hW)).c1
  have b2 := (hB.later (keeps_of_below hW)).c2
  clear hJ hJx hY h0 H hB hW
  refine callsIn_of_wp Tryz.func66 rfl trivial ?_ rfl
  simp only [Tryz.ntmps66, List.size_toArray, List.length_cons, List.length_nil, Nat.reduceAdd, Nat.reduceSub, Array.replicate_succ, Array.replicate_zero, List.push_toArray, List.append_toArray, List.nil_append, List.cons_append]
  gi_wp2_with ((refine ⟨trivial, ?_⟩); gi_at_call 67; refine TT.out.mono ?_; clear TT; rintro e W1 (⟨rfl, ⟨q1, hq1, hJ1⟩, _⟩ | ⟨rfl, q, hq, q2, hq2, hx⟩))
  · go_end0
    exact ⟨⟨_, rfl⟩, .inl ⟨q1, by simpa using hq1, hJ1⟩⟩
  · go_end0
    exact ⟨⟨_, rfl⟩, .inr ⟨q2, by rw [hq2]; simpa using hq, hx⟩⟩
end Go.Proofs.YtfcpbpfemmdklaaGreat.Tr
