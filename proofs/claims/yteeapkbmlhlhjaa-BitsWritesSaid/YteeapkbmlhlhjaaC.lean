/- The contract of putLow. -/
import Derived.Test.YteeapkbmlhlhjaaB
import Derived.Deep.DeepMust
import Derived.Laws.AppendOwnNone
import Derived.Maps.AppendAt
import Derived.StillTailTactics
import Derived.LoopTactic
import Derived.RegionTactic
import Derived.BigRegion
import Derived.Deep.RegionLaw
namespace Go.Proofs.Yteeapkbmlhlhjaa
open Go.RowKit

theorem info5 : (Try.prog.info? 5).map (fun i => (i.zero, i.size, i.bytes)) = some (some (.int .u8 0), 1, 1) := by kernel_rfl

/-- Behind a call that a writer goes on by: its row, and what else stays. -/
def Then (w : World) (B P : Nat) (D : Option Nat) (high : Bool) (L : List Bool) (w' : World) : Prop :=
  ∃ D', Wr w' B P D' high L ∧ Keeps (fun k => k = P ∨ some k = D) w w' ∧ (D' = D ∨ ∃ k, D' = some k ∧ w.heap.size ≤ k)

/-- Within the loop: q bytes of the row are full. -/
def Part (w : World) (B P : Nat) (D : Option Nat) (M : List Bool) (q : Nat) (wr : World) : Prop :=
  8 * q ≤ M.length ∧ ∃ D', Raw wr B P D' false (fulls false M q) (val false (M.drop (8 * q)) : Nat) ((M.length - 8 * q : Nat) : Int) ∧ Keeps (fun k => k = P ∨ some k = D) w wr ∧ (D' = D ∨ ∃ k, D' = some k ∧ w.heap.size ≤ k)

/-- A writer's count as it lies in memory. -/
def usedOf (P : Nat) (w : World) : Nat := match w.cell? ⟨P, 3, none⟩ with
  | some (.int _ n) => n.toNat
  | _ => 0
theorem usedOf_eq {P : Nat} {w : World} {n : Int} (h : w.cell? ⟨P, 3, none⟩ = some (.int .i64 n)) : usedOf P w = n.toNat := by
  unfold usedOf; rw [h]

theorem wrap_u8_nat (n : Nat) : IntKind.u8.wrap (n : Int) = ((n % 256 : Nat) : Int) := by
  simp [IntKind.wrap, IntKind.bits, IntKind.signed]

/-- One byte more. -/
theorem Raw.pushed {w W w1 : World} {B P : Nat} {D : Option Nat} {high : Bool} {xs : List Int} {rest used b : Int} (h : Raw w B P D high xs rest used) (hb : 0 ≤ b ∧ b ≤ 255)
    (hW : Below w.heap.size w W) {v v' : Value} (hv : v.ownBlock = D) (hown : w1.ownsRow B 5 1 v' (xs.length + 1) (xs.map (Value.int .u8) ++ [.int .u8 b])) (hg : W.grownBy w1 v.ownBlock) (hat : v'.ownBlock = v.ownBlock ∨ v'.ownBlock = some W.heap.size) :
    ∃ D', Raw (w1.setCell ⟨P, 1, none⟩ v') B P D' high (xs ++ [b]) rest used ∧ Keeps (fun k => k = P ∨ some k = D) w (w1.setCell ⟨P, 1, none⟩ v') ∧ (D' = D ∨ ∃ k, D' = some k ∧ w.heap.size ≤ k) := by
  have hPlt := h.lt
  have hPW : P < W.heap.size := Nat.lt_of_lt_of_le hPlt hW.size
  have hP : w1.heap[P]? = w.heap[P]? := (hg.block P hPW (by rw [hv]; exact fun e => h.apart e.symm)).trans (hW.block P hPlt)
  have hD' : v'.ownBlock = D ∨ ∃ k, v'.ownBlock = some k ∧ w.heap.size ≤ k := by
    rcases hat with e | e
    · exact Or.inl (e.trans hv)
    · exact Or.inr ⟨_, e, hW.size⟩
  have ha : v'.ownBlock ≠ some P := by
    rcases hD' with e | ⟨k, e, hk⟩
    · rw [e]; exact h.apart
    · rw [e]; simp; omega
  refine ⟨v'.ownBlock, h.set_full hP v' ?_ (by simpa using hown) rfl ha, ?_, hD'⟩
  · intro x hx
    rcases List.mem_append.1 hx with hx | hx
    · exact h.byte x hx
    · rw [List.mem_singleton] at hx; subst hx; exact hb
  · refine Keeps.setCell (p := ⟨P, 1, none⟩) ?_ (fun _ => Or.inl rfl) _
    exact ((below_keeps hW).mono (fun _ _ f => f.elim)).grown hg (fun k _ e => Or.inr (e.symm.trans hv))

theorem Then.step {w W w' : World} {P : Nat} {D D1 : Option Nat} (hk : Keeps (fun k => k = P ∨ some k = D) w W) (hD : D1 = D ∨ ∃ k, D1 = some k ∧ w.heap.size ≤ k)
    {D' : Option Nat} (hk' : Keeps (fun k => k = P ∨ some k = D1) W w') (hD' : D' = D1 ∨ ∃ k, D' = some k ∧ W.heap.size ≤ k) : Keeps (fun k => k = P ∨ some k = D) w w' ∧ (D' = D ∨ ∃ k, D' = some k ∧ w.heap.size ≤ k) := by
  refine ⟨hk.trans hk' ?_, ?_⟩
  · intro i hi h
    rcases h with h | h
    · exact Or.inl h
    · rcases hD with rfl | ⟨k, rfl, hk2⟩
      · exact Or.inr h
      · simp only [Option.some.injEq] at h; omega
  · rcases hD' with rfl | ⟨k, h1, h2⟩
    · exact hD
    · exact Or.inr ⟨k, h1, Nat.le_trans hk.size h2⟩

theorem own_kept {w w' : World} {B n : Nat} {v : Value} {xs : List Value} (h : w.ownsRow B 5 1 v n xs) (hk : ∀ k, v.ownBlock = some k → w'.heap[k]? = w.heap[k]?) : w'.ownsRow B 5 1 v n xs := by
  obtain ⟨h1, h2⟩ := h
  refine ⟨h1, ?_⟩
  rcases h2 with h2 | ⟨g, cap, cur, rfl, hg, hh, r⟩
  · exact Or.inl h2
  · exact Or.inr ⟨g, cap, cur, rfl, hg, (hk g rfl).trans hh, r⟩

/-- append of one byte to a row of the call's own, as one step. -/
theorem run_append_byte (w : World) (ty : TypeId) (base n : Nat) (v : Value) (xs : List Int) (hown : w.ownsRow base 5 1 v n (xs.map (Value.int .u8))) (ad : Addr) (c : Nat) (b : Int) (hcell : w.cell? ad = some (.int .u8 b)) (hb : n ≤ 33554432) (hbase : base ≤ w.heap.size) :
    ∃ aa cap w', (Builtin.append_ #[33, 33] ty #[v, .slice (some ad) 1 c]).run Try.prog w = .ok (.slice aa (n + 1) cap) w' ∧
      w'.ownsRow base 5 1 (.slice aa (n + 1) cap) (n + 1) (xs.map (Value.int .u8) ++ [.int .u8 b]) ∧ w.grownBy w' v.ownBlock ∧ ((Value.slice aa (n + 1) cap).ownBlock = v.ownBlock ∨ (Value.slice aa (n + 1) cap).ownBlock = some w.heap.size) := by
  obtain ⟨i0, hi, hz0, hz1, hz2⟩ := info_parts info5
  obtain ⟨v', w', hr, h1, h2, h4, h5⟩ := run_append_own_at (P := Try.prog) w base 33 ty 5 i0 (.int .u8 0) 1 1 Try.underlying33 hi hz0 hz1 hz2 rfl (by decide) v n _ hown ad 1 c [.int .u8 b] rfl
    (by
      intro j u hj
      cases j with
      | zero => simp only [List.getElem?_cons_zero, Option.some.injEq] at hj; subst hj; exact hcell
      | succ j => simp at hj)
    (by intro u hu; simp only [List.mem_singleton] at hu; subst hu; rfl) (by unfold maxLen; omega) (by omega) hbase
  rcases h1.2 with ⟨e, _⟩ | ⟨g, cap, _, e, _⟩
  · have := (h4.1 e).2
    omega
  · subst e
    exact ⟨_, _, w', hr, h1, h2, h5⟩

theorem step_append_byte {w : World} {ops : Array Oper} {o : Oper} {a : Act} {K : Act → World → Prop} {Q : Exit → Act → World → Prop} {E : Prop} (hgd : o.guard = none) (s x : Operand) (ho : o.op = .call { callee := .builtin .append, args := #[s, x], argTypes := #[33, 33] })
    (base n : Nat) (v : Value) (xs : List Int) (hs : a.eval s = v) (hown : w.ownsRow base 5 1 v n (xs.map (Value.int .u8)))
    (ad : Addr) (c : Nat) (b : Int) (hx : a.eval x = .slice (some ad) 1 c) (hcell : w.cell? ad = some (.int .u8 b)) (hb : n ≤ 33554432) (hbase : base ≤ w.heap.size)
    (h : ∀ aa cap w', w'.ownsRow base 5 1 (.slice aa (n + 1) cap) (n + 1) (xs.map (Value.int .u8) ++ [.int .u8 b]) → w.grownBy w' v.ownBlock → ((Value.slice aa (n + 1) cap).ownBlock = v.ownBlock ∨ (Value.slice aa (n + 1) cap).ownBlock = some w.heap.size) → K (a.put o.dst (.slice aa (n + 1) cap)) w') :
    if Region.wanted o (yielded ops a.tmps) = true then Oper.wp Try.prog o a w K Q else E := by
  have hw : Region.wanted o (yielded ops a.tmps) = true := by simp [Region.wanted, hgd]
  rw [if_pos hw]
  obtain ⟨aa, cap, w', hr, h1, h2, h3⟩ := run_append_byte w o.type base n v xs hown ad c b hcell hb hbase
  unfold Oper.wp execOp
  simp only [ho, resolve, invoke, builtin, Sem.run_bind, Sem.run_pure, Result.andThen_ok, List.map_toArray, List.map_cons, List.map_nil, hs, hx, hr]
  exact h aa cap w' h1 h2 h3

theorem part_step {w wr w2 : World} {B P : Nat} {D D1 D2 : Option Nat} {M : List Bool} {q s R : Nat} (hk : Keeps (fun k => k = P ∨ some k = D) w wr) (hD : D1 = D ∨ ∃ k, D1 = some k ∧ w.heap.size ≤ k) (hs : s = M.length - 8 * q) (hge : 8 ≤ s) (hR : val false (M.drop (8 * q)) = R)
    (r2 : Raw w2 B P D2 false (fulls false M q ++ [IntKind.u8.wrap (R : Int)]) R ((M.length - 8 * q : Nat) : Int)) (b2 : Keeps (fun k => k = P ∨ some k = D1) wr w2) (d2 : D2 = D1 ∨ ∃ k, D2 = some k ∧ wr.heap.size ≤ k) :
    Part w B P D M (q + 1) ((w2.setCell ⟨P, 2, none⟩ (.int .i64 ((R : Int) / 256))).setCell ⟨P, 3, none⟩ (.int .i64 ((s : Int) - 8))) := by
  obtain ⟨h1, h2⟩ := Then.step hk hD b2 d2
  refine ⟨by omega, D2, ?_, ((h1.setCell (p := ⟨P, 2, none⟩) (fun _ => Or.inl rfl) _).setCell (p := ⟨P, 3, none⟩) (fun _ => Or.inl rfl) _), h2⟩
  have k := (Raw.set_rest r2 ((R : Int) / 256)).set_used ((s : Int) - 8)
  have e1 : fulls false M (q + 1) = fulls false M q ++ [IntKind.u8.wrap (R : Int)] := by
    rw [fulls_succ, byteAt_full _ _ _ (by omega), low_take, hR, wrap_u8_nat]
  have e2 : val false (M.drop (8 * (q + 1))) = R / 256 := by
    rw [show 8 * (q + 1) = 8 * q + 8 by omega, ← List.drop_drop, low_drop, hR]
  rw [e1, e2, show ((R / 256 : Nat) : Int) = (R : Int) / 256 by simp, show ((M.length - 8 * (q + 1) : Nat) : Int) = (s : Int) - 8 by omega]
  exact k

theorem part_used {w wr : World} {B P : Nat} {D : Option Nat} {M : List Bool} {q : Nat} (h : Part w B P D M q wr) : usedOf P wr = M.length - 8 * q := by
  obtain ⟨h1, D', h2, h3⟩ := h
  obtain ⟨a, c, _, _, _, k3, _⟩ := h2.open
  rw [usedOf_eq k3, Int.toNat_natCast]

theorem part_done {w wr : World} {B P : Nat} {D : Option Nat} {M : List Bool} {q : Nat} (h : Part w B P D M q wr) (hlt : M.length - 8 * q < 8) : Then w B P D false M wr := by
  obtain ⟨h1, D', h2, h3⟩ := h
  have e : q = M.length / 8 := by omega
  subst e
  refine ⟨D', ?_, h3⟩
  rw [show M.length - 8 * (M.length / 8) = M.length % 8 by omega] at h2
  exact h2

set_option maxHeartbeats 800000 in
theorem putLow_any (w : World) (B P : Nat) (D : Option Nat) (L : List Bool) (h : Wr w B P D false L) (hB : B ≤ w.heap.size) (hl : L.length ≤ 16777216) (v n : Nat) (hn : n ≤ 24) (hv : v < 2 ^ n) :
    Calls Try.prog 23 #[.pointer (some ⟨P, 0, none⟩), .int .i64 v, .int .i64 n] w fun e w' => e = .returned (.tuple #[]) ∧ Then w B P D false (L ++ row false v n) w' := by
  have hu : L.length % 8 < 8 := Nat.mod_lt _ (by omega)
  have hr := val_lt false (L.drop (8 * (L.length / 8)))
  rw [List.length_drop, show L.length - 8 * (L.length / 8) = L.length % 8 by omega] at hr
  obtain ⟨a, c, h0, h1, h2, h3, hf, hown, hd⟩ := Raw.open h
  have f2 := hf 2
  have f3 := hf 3
  have hM : (L ++ row false v n).length = L.length + n := by rw [List.length_append, row_length]
  have hp : Part w B P D (L ++ row false v n) (L.length / 8) ((w.setCell ⟨P, 2, none⟩ (.int .i64 ((val false ((L ++ row false v n).drop (8 * (L.length / 8))) : Nat) : Int))).setCell ⟨P, 3, none⟩ (.int .i64 (((L.length % 8 : Nat) : Int) + n))).drew := by
    refine ⟨by omega, D, ?_, (((Keeps.refl _ w).setCell (p := ⟨P, 2, none⟩) (fun _ => Or.inl rfl) _).setCell (p := ⟨P, 3, none⟩) (fun _ => Or.inl rfl) _).drew, Or.inl rfl⟩
    have k := (Raw.set_rest h ((val false ((L ++ row false v n).drop (8 * (L.length / 8))) : Nat) : Int)).set_used (((L.length % 8 : Nat) : Int) + n)
    rw [fulls_more _ _ _ _ (by omega), hM, show ((L.length + n - 8 * (L.length / 8) : Nat) : Int) = ((L.length % 8 : Nat) : Int) + n by omega]
    exact k.kept rfl (fun _ _ => rfl)
  have he : bits .or .i64 ((val false (L.drop (8 * (L.length / 8))) : Nat) : Int) (wrap64 ((v : Int) * 2 ^ (L.length % 8))) = ((val false ((L ++ row false v n).drop (8 * (L.length / 8))) : Nat) : Int) := by
    have hu2 : 2 ^ (L.length % 8) ≤ 2 ^ 7 := Nat.pow_le_pow_right (by omega) (by omega)
    have hn2 : 2 ^ n ≤ 2 ^ 24 := Nat.pow_le_pow_right (by omega) hn
    have hb : v * 2 ^ (L.length % 8) ≤ 2 ^ 24 * 2 ^ 7 := Nat.mul_le_mul (by omega) hu2
    rw [two_pow_cast, ← Int.natCast_mul, IntWalk.wrap64_in _ (by omega), i64_or_nat _ _ (by omega) (by omega), List.drop_append_of_le_length (by omega), low_append, val_row hv, List.length_drop, show L.length - 8 * (L.length / 8) = L.length % 8 by omega, Nat.or_comm, nat_join (L.length % 8) _ _ (Nat.mul_mod_left _ _) hr, Nat.mul_comm, Nat.add_comm]
  generalize val false ((L ++ row false v n).drop (8 * (L.length / 8))) = r1 at *
  generalize val false (L.drop (8 * (L.length / 8))) = r0 at *
  generalize L.length / 8 = q0 at *
  generalize L.length % 8 = u at *
  generalize L ++ row false v n = M at *
  have HP := Lib.hid hp
  have HE := Lib.hid he
  have ML := Lib.hid (show M.length ≤ 33554432 by omega)
  clear hown hd h hr hf h0 h1 hp he hM hv
  go_enter Try.func23, Try.ntmps23
  go_wp2
  go_region
  rw [HE.out]
  go_wp2
  go_loopw [] (fun wr => ∃ q, Part w B P D M q wr) (fun wr => usedOf P wr)
  case atStart => exact ⟨q0, HP.out⟩
  case round =>
    obtain ⟨q, hq, D1, hraw, hk, hD⟩ := hrel
    obtain ⟨a1, c1, k0, k1, k2, k3, kf, kown, kd⟩ := hraw.open
    have f1' := kf 1
    have f2' := kf 2
    have f3' := kf 3
    obtain ⟨s, hs⟩ : ∃ s : Nat, s = M.length - 8 * q := ⟨_, rfl⟩
    have PT := Lib.hid (show Part w B P D M q wr from ⟨hq, D1, hraw, hk, hD⟩)
    have hs25 : s ≤ 33554432 := by have := ML.out; omega
    have HV := Lib.hid kown
    have HD := Lib.hid kd
    have HR := Lib.hid hraw
    have HK := Lib.hid hk
    have HD1 := Lib.hid hD
    have HQ := Lib.hid hq
    rw [← hs] at k3
    have HS := Lib.hid hs
    rw [fulls_length] at k1
    clear kown kd hraw hk hD hq k0 hs kf
    obtain ⟨i0, hi, hz0, hz1, hz2⟩ := info_parts info5
    by_cases hge : 8 ≤ s
    · generalize hR : val false (M.drop (8 * q)) = R at *
      have LB := Lib.hid (show Below wr.heap.size wr ((wr.alloc (.cells #[.int .u8 (IntKind.u8.wrap (R : Int))] 5)).drew) from ((Below.refl _ _).alloc (Nat.le_refl _) _).drew)
      have HV1 := Lib.hid (show ((wr.alloc (.cells #[.int .u8 (IntKind.u8.wrap (R : Int))] 5)).drew).ownsRow B 5 1 (.slice a1 q c1) q ((fulls false M q).map (Value.int .u8)) by
        have k := HV.out
        have hd := HD.out
        rw [fulls_length] at k hd
        exact own_kept k (fun k e => LB.out.block k (HR.out.data_lt (hd.symm.trans e)).2))
      have hPlt := HR.out.lt
      have hsz : B ≤ wr.heap.size := by have := HK.out.size; omega
      have hq25 : q ≤ 33554432 := by have := HQ.out; have := ML.out; omega
      have P1 := Lib.hid (fun (aa : Option Addr) (cap : Nat) (w1 : World) (hown : w1.ownsRow B 5 1 (.slice aa (q + 1) cap) (q + 1) ((fulls false M q).map (Value.int .u8) ++ [.int .u8 (IntKind.u8.wrap (R : Int))])) (hg : ((wr.alloc (.cells #[.int .u8 (IntKind.u8.wrap (R : Int))] 5)).drew).grownBy w1 (Value.slice a1 q c1).ownBlock)
          (hat : (Value.slice aa (q + 1) cap).ownBlock = (Value.slice a1 q c1).ownBlock ∨ (Value.slice aa (q + 1) cap).ownBlock = some ((wr.alloc (.cells #[.int .u8 (IntKind.u8.wrap (R : Int))] 5)).drew).heap.size) =>
        HR.out.pushed (b := IntKind.u8.wrap (R : Int)) (by rw [wrap_u8_nat]; omega) LB.out (v := .slice a1 q c1) (v' := .slice aa (q + 1) cap) (by have := HD.out; rw [fulls_length] at this; exact this) (by rw [fulls_length]; exact hown) hg hat)
      have P2 := Lib.hid (fun (w1 : World) (hg : ((wr.alloc (.cells #[.int .u8 (IntKind.u8.wrap (R : Int))] 5)).drew).grownBy w1 (Value.slice a1 q c1).ownBlock) => show w1.cell? ⟨P, 1, none⟩ = some (.slice a1 q c1) ∧ w1.frozen? ⟨P, 1, none⟩ = false by
        have hPlt := HR.out.lt
        have hP : w1.heap[P]? = wr.heap[P]? := (hg.block P (Nat.lt_of_lt_of_le hPlt LB.out.size) (by have := HD.out; rw [fulls_length] at this; rw [this]; exact fun e => HR.out.apart e.symm)).trans (LB.out.block P hPlt)
        exact ⟨(World.cell?_of_block (w := wr) hP).trans k1, (World.frozen?_of_block (w := wr) hP).trans f1'⟩)
      go_wp2
      go_region_law (refine step_append_byte (by rfl) (.tmp 43) (.tmp 49) (by rfl) B q (.slice a1 q c1) (fulls false M q) (by rfl) HV1.out ⟨wr.heap.size, 0, none⟩ 1 (IntKind.u8.wrap (R : Int)) (by rfl) (by simp) hq25 (by simp; omega) ?_; intro aa cap w1 hown1 hgrow1 hat1; have q1 := P2.out w1 hgrow1)
      all_goals
        obtain ⟨D2, r2, b2, d2⟩ := P1.out _ _ _ hown1 hgrow1 hat1
        obtain ⟨a3, c3, g0, g1, g2, g3, gf, gown, gd⟩ := r2.open
        have gf2 := gf 2
        have gf3 := gf 3
        rw [← HS.out] at g3
        have X := Lib.hid (part_step HK.out HD1.out HS.out hge hR r2 b2 d2)
        clear hown1 hgrow1 hat1 q1 r2 b2 d2 g0 g1 gf gown gd
        generalize w1.setCell ⟨P, 1, none⟩ (.slice aa (q + 1) cap) = w2 at *
        clear k1 k2 k3 f1' f2' f3'
        go_wp2
        go_roundw
        case rel => exact ⟨q + 1, X.out⟩
        case measure =>
          rw [part_used PT.out, part_used X.out]
          have := HS.out
          omega
    · go_wp2
      go_end0
      exact ⟨rfl, part_done PT.out (by have := HS.out; omega)⟩
end Go.Proofs.Yteeapkbmlhlhjaa
