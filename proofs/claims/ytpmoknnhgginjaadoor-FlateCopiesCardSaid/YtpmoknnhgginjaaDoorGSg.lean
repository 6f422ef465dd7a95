/- Texts of a layer, one behind the other. -/
import Derived.Test.YtpmoknnhgginjaaDoorGSf
import Derived.Test.YtpmoknnhgginjaaDoorGSa
import Derived.Deep.RegionLaw
/- The program's reader of a stream in memory; fail, number, room. -/
namespace Go.Proofs.YtpmoknnhgginjaaDoor.Pr
open Go.RowKit Lzz Ref
set_option linter.unusedVariables false

/-- The reader in memory: its own block P, the reader of bits at R over the bytes at D, a row of its own for what comes out; blocks that are kept beside it. -/
structure Pm (w0 : World) (P R D : Nat) (ys : List Nat) (most : Int) (K : Nat → Prop) (f1 f2 : Value) (s : St) (w : World) : Prop where
  blk : ∃ aa cap, w.heap[P]? = some (.cells #[.pointer (some ⟨R, 0, none⟩), .slice aa s.out.length cap, .int .i64 most, .int .i64 s.e, f1, f2] 57 (0, 0)) ∧
    w.ownsRow w0.heap.size 5 1 (.slice aa s.out.length cap) s.out.length (bys s.out) ∧ (Value.slice aa s.out.length cap).ownBlock ≠ some P ∧ ∀ k, K k ∨ k = R ∨ k = D → (Value.slice aa s.out.length cap).ownBlock ≠ some k
  at_ : w0.heap.size ≤ P
  rd : Bi.Rd w w0.heap.size R D false ys s.at_
  ne : R ≠ P ∧ D ≠ P
  apart : ∀ k, K k → k ≠ P ∧ k ≠ R ∧ k ≠ D ∧ k < w.heap.size
  byte : ∀ y ∈ s.out, y < 256
  err : -9223372036854775808 ≤ s.e ∧ s.e ≤ 9223372036854775807
  old : Below w0.heap.size w0 w
  room : (s.out.length : Int) ≤ most ∧ most ≤ 16777216
variable {w0 w w2 : World} {P R D : Nat} {ys : List Nat} {most : Int} {K : Nat → Prop} {f1 f2 : Value} {s : St}
theorem Pm.lt (h : Pm w0 P R D ys most K f1 f2 s w) : P < w.heap.size := by
  obtain ⟨aa, cap, hb, _⟩ := h.blk
  exact lt_of_block hb
theorem Pm.far (h : Pm w0 P R D ys most K f1 f2 s w) : s.at_ ≤ 8 * ys.length := h.rd.pos_le
theorem Pm.len (h : Pm w0 P R D ys most K f1 f2 s w) : ys.length ≤ 16777216 := h.rd.len
theorem Pm.later (h : Pm w0 P R D ys most K f1 f2 s w) (hb : Below w.heap.size w w2) : Pm w0 P R D ys most K f1 f2 s w2 ∧ Kept K w w2 := by
  obtain ⟨aa, cap, h1, h2, h3, h4⟩ := h.blk
  exact ⟨⟨⟨aa, cap, (hb.block P h.lt).trans h1, own_kept2 h2 (fun g e => hb.block g (own_lt2 h2 g e).2), h3, h4⟩, h.at_, h.rd.kept (hb.block R h.rd.lt.1) (hb.block D h.rd.lt.2), h.ne,
    fun k hk => ⟨(h.apart k hk).1, (h.apart k hk).2.1, (h.apart k hk).2.2.1, Nat.lt_of_lt_of_le (h.apart k hk).2.2.2 hb.size⟩, h.byte, h.err, below_more h.old hb (Nat.le_refl _), h.room⟩,
    fun k hk => hb.block k (h.apart k hk).2.2.2⟩
theorem Pm.drewN (h : Pm w0 P R D ys most K f1 f2 s w) (q : Nat) : Pm w0 P R D ys most K f1 f2 s (w.drewN q) ∧ Kept K w (w.drewN q) := h.later ⟨rfl, rfl, rfl, Nat.le_refl _, fun _ _ => rfl⟩
theorem Pm.cells (h : Pm w0 P R D ys most K f1 f2 s w) : w.cell? ⟨P, 0, none⟩ = some (.pointer (some ⟨R, 0, none⟩)) ∧ w.cell? ⟨P, 2, none⟩ = some (.int .i64 most) ∧ w.cell? ⟨P, 3, none⟩ = some (.int .i64 s.e) ∧ w.cell? ⟨P, 4, none⟩ = some f1 ∧ w.cell? ⟨P, 5, none⟩ = some f2 ∧ ∀ i, w.frozen? ⟨P, i, none⟩ = false := by
  obtain ⟨aa, cap, hb, _⟩ := h.blk
  refine ⟨?_, ?_, ?_, ?_, ?_, fun i => ?_⟩ <;> simp [World.cell?, World.frozen?, hb]
theorem Pm.outCell (h : Pm w0 P R D ys most K f1 f2 s w) : ∃ aa cap, w.cell? ⟨P, 1, none⟩ = some (.slice aa s.out.length cap) := by
  obtain ⟨aa, cap, hb, _⟩ := h.blk
  exact ⟨aa, cap, by simp [World.cell?, hb]⟩
/-- The error is set. -/
theorem Pm.setE (h : Pm w0 P R D ys most K f1 f2 s w) (e : Int) (he : -9223372036854775808 ≤ e ∧ e ≤ 9223372036854775807) : Pm w0 P R D ys most K f1 f2 { s with e := e } (w.setCell ⟨P, 3, none⟩ (.int .i64 e)) ∧ Kept K w (w.setCell ⟨P, 3, none⟩ (.int .i64 e)) ∧ (w.setCell ⟨P, 3, none⟩ (.int .i64 e)).cell? ⟨P, 1, none⟩ = w.cell? ⟨P, 1, none⟩ := by
  obtain ⟨aa, cap, h1, h2, h3, h4⟩ := h.blk
  refine ⟨⟨⟨aa, cap, ?_, ownsRow_setCell_other h2 h3 _, h3, h4⟩, h.at_, h.rd.kept (Below.heap_setCell _ _ _ _ h.ne.1) (Below.heap_setCell _ _ _ _ h.ne.2), h.ne,
    fun j hj => ⟨(h.apart j hj).1, (h.apart j hj).2.1, (h.apart j hj).2.2.1, by simpa [World.setCell] using (h.apart j hj).2.2.2⟩, h.byte, he, below_set h.old h.at_ _, h.room⟩, fun j hj => Below.heap_setCell _ _ _ _ (by simpa using (h.apart j hj).1), ?_⟩
  · rw [block_set h1]; rfl
  · simp [World.cell?, block_set h1, h1]
/-- What the reader of bits leaves. -/
theorem Pm.read (h : Pm w0 P R D ys most K f1 f2 s w) (k : Nat) (hr : Bi.Rd w2 w0.heap.size R D false ys k) (hk : Bi.Keeps (fun i => i = R) w w2) : Pm w0 P R D ys most K f1 f2 { s with at_ := k } w2 ∧ Kept K w w2 ∧ w2.cell? ⟨P, 1, none⟩ = w.cell? ⟨P, 1, none⟩ := by
  obtain ⟨aa, cap, h1, h2, h3, h4⟩ := h.blk
  have hR : ∀ k, K k → k ≠ R := fun k hk => (h.apart k hk).2.1
  have hRw0 : w0.heap.size ≤ R := h.rd.at_
  refine ⟨⟨⟨aa, cap, (hk.block P h.lt (fun e => h.ne.1 e.symm)).trans h1, own_kept2 h2 (fun g e => hk.block g (own_lt2 h2 g e).2 (fun e2 => by subst e2; exact h4 g (Or.inr (Or.inl rfl)) e)), h3, h4⟩, h.at_, hr, h.ne,
    fun j hj => ⟨(h.apart j hj).1, (h.apart j hj).2.1, (h.apart j hj).2.2.1, Nat.lt_of_lt_of_le (h.apart j hj).2.2.2 hk.size⟩, h.byte, h.err, h.old.trans (hk.below (B := w0.heap.size) h.old.size (fun i hi e => by omega)), h.room⟩,
    fun j hj => hk.block j (h.apart j hj).2.2.2 (hR j hj), World.cell?_of_block (w := w) (hk.block P h.lt (fun e => h.ne.1 e.symm))⟩
/-- A call's end: a state, and what is kept. -/
def Ends (w0 : World) (P R D : Nat) (ys : List Nat) (most : Int) (K : Nat → Prop) (f1 f2 : Value) (s : St) (w : World) (v : Value) (e : Ending) (w' : World) : Prop :=
  e = .returned v ∧ Pm w0 P R D ys most K f1 f2 s w' ∧ Kept K w w'
/-- The same; where what came out lies stays. -/
def EndsC (w0 : World) (P R D : Nat) (ys : List Nat) (most : Int) (K : Nat → Prop) (f1 f2 : Value) (s : St) (w : World) (v : Value) (e : Ending) (w' : World) : Prop :=
  e = .returned v ∧ Pm w0 P R D ys most K f1 f2 s w' ∧ Kept K w w' ∧ w'.cell? ⟨P, 1, none⟩ = w.cell? ⟨P, 1, none⟩
theorem EndsC.ends {v : Value} {e : Ending} (h : EndsC w0 P R D ys most K f1 f2 s w v e w2) : Ends w0 P R D ys most K f1 f2 s w v e w2 := ⟨h.1, h.2.1, h.2.2.1⟩

set_option maxHeartbeats 800000 in
theorem fail_st (h : Pm w0 P R D ys most K f1 f2 s w) (e : Int) (he : -9223372036854775808 ≤ e ∧ e ≤ 9223372036854775807) :
    Calls Tryd.prog 31 #[.pointer (some ⟨P, 0, none⟩), .int .i64 e] w (EndsC w0 P R D ys most K f1 f2 (s.fail e) w (.tuple #[])) := by
  obtain ⟨c0, c2, c3, c4, c5, cf⟩ := h.cells
  by_cases h0 : s.e = 0
  · have X := Lib.hid (h.setE e he)
    have hs : s.fail e = { s with e := e } := by unfold St.fail; rw [if_pos h0]
    rw [hs]
    rw [h0] at c3
    clear h h0 hs
    go_enter Tryd.func31, Tryd.ntmps31
    go_wp2_with fail
    go_end0
    exact ⟨rfl, X.out⟩
  · have X := Lib.hid (And.intro h (Kept.refl K w))
    have hs : s.fail e = s := by unfold St.fail; rw [if_neg h0]
    have u : (s.e == 0) = false := by simpa using h0
    rw [hs]
    clear h hs
    go_enter Tryd.func31, Tryd.ntmps31
    go_wp2_with fail
    go_end0
    exact ⟨rfl, X.out.1, X.out.2, rfl⟩

theorem fail_any (h : Pm w0 P R D ys most K f1 f2 s w) (e : Int) (he : -9223372036854775808 ≤ e ∧ e ≤ 9223372036854775807) :
    Calls Tryd.prog 31 #[.pointer (some ⟨P, 0, none⟩), .int .i64 e] w (Ends w0 P R D ys most K f1 f2 (s.fail e) w (.tuple #[])) := (fail_st h e he).mono fun _ _ h => h.ends
/-- The bits that are read, as a number. -/
theorem lowv_snoc (l : List Bool) (b : Bool) : Bi.lowv (l ++ [b]) = Bi.lowv l + (if b then 1 else 0) * 2 ^ l.length := by
  rw [Bi.lowv_append]
  cases b <;> simp [Bi.lowv]
theorem row_bit (y j : Nat) (hj : j < 8) : (Bi.row false y 8)[j]? = some (decide (y / 2 ^ j % 2 = 1)) := by
  have h : ∀ n y j, j < n → (Bi.lowr y n)[j]? = some (decide (y / 2 ^ j % 2 = 1)) := by
    intro n
    induction n with
    | zero => intro y j hj; omega
    | succ n ih =>
      intro y j hj
      cases j with
      | zero => simp [Bi.lowr]
      | succ j =>
        have := ih (y / 2) j (by omega)
        simp only [Bi.lowr, List.getElem?_cons_succ, this]
        rw [Nat.pow_succ, Nat.mul_comm, ← Nat.div_div_eq_div_mul]
  exact h 8 y j hj
theorem rowOf_bit (ys : List Nat) (i : Nat) (hi : i < 8 * ys.length) : (Bi.rowOf false ys)[i]? = some (decide (bitAt ys i = 1)) := by
  induction ys generalizing i with
  | nil => simp at hi
  | cons y ys ih =>
    simp only [Bi.rowOf]
    by_cases h : i < 8
    · rw [List.getElem?_append_left (by rw [Bi.row_length]; exact h), row_bit y i h]
      unfold bitAt
      rw [show i / 8 = 0 by omega, show i % 8 = i by omega]; rfl
    · rw [List.getElem?_append_right (by rw [Bi.row_length]; omega), Bi.row_length, ih (i - 8) (by simp only [List.length_cons] at hi; omega)]
      unfold bitAt
      rw [show i / 8 = (i - 8) / 8 + 1 by omega, show i % 8 = (i - 8) % 8 by omega]; rfl
theorem num_of_row (ys : List Nat) (at_ n : Nat) (h : at_ + n ≤ 8 * ys.length) : Bi.lowv (((Bi.rowOf false ys).drop at_).take n) = numAt ys at_ n := by
  induction n with
  | zero => simp [numAt, Bi.lowv]
  | succ n ih =>
    have hb := rowOf_bit ys (at_ + n) (by omega)
    have hl : (((Bi.rowOf false ys).drop at_).take n).length = n := by
      rw [List.length_take, List.length_drop, Bi.rowOf_length]; omega
    rw [List.take_add_one, List.getElem?_drop, hb]
    simp only [Option.toList]
    rw [lowv_snoc, ih (by omega), hl, numAt]
    have := bitAt_lt ys (at_ + n)
    by_cases h1 : bitAt ys (at_ + n) = 1
    · simp [h1]
    · have h0 : bitAt ys (at_ + n) = 0 := by omega
      simp [h0]
/-- The next bits as the program reads them. -/
def num (ys : List Nat) (k : Nat) (s : St) : Nat × St := if s.e ≠ 0 then (0, s) else Ref.get ys k s

set_option maxHeartbeats 1600000 in
theorem number_st (h : Pm w0 P R D ys most K f1 f2 s w) (k : Nat) (hk : k ≤ 24) :
    Calls Tryd.prog 21 #[.pointer (some ⟨P, 0, none⟩), .int .i64 k] w (EndsC w0 P R D ys most K f1 f2 (num ys k s).2 w (.int .i64 (num ys k s).1)) := by
  obtain ⟨c0, c2, c3, c4, c5, cf⟩ := h.cells
  by_cases h0 : s.e = 0
  · have e0 : num ys k s = Ref.get ys k s := by unfold num; rw [if_neg (by simp [h0])]
    rw [e0]
    rw [h0] at c3
    by_cases hfit : s.at_ + k ≤ 8 * ys.length
    · have CG := Lib.hid (Bi.get_yes w w0.heap.size R D s.at_ false ys h.rd k hk hfit)
      have e1 : Ref.get ys k s = (numAt ys s.at_ k, { s with at_ := s.at_ + k }) := by unfold Ref.get; rw [if_neg (by omega)]
      have e2 : Bi.val false (((Bi.rowOf false ys).drop s.at_).take k) = numAt ys s.at_ k := num_of_row ys s.at_ k hfit
      rw [e1]
      have HR := Lib.hid (fun w2 hr hk => h.read (w2 := w2) (s.at_ + k) hr hk)
      unfold Bi.Got at CG
      rw [e2] at CG
      generalize numAt ys s.at_ k = v at *
      clear h e0 e1 e2 hfit h0
      go_enter Tryd.func21, Tryd.ntmps21
      go_wp2_with fail
      refine CG.out.mono ?_
      rintro e1 w1 ⟨rfl, hr, hk1⟩
      have X := Lib.hid (HR.out w1 hr hk1)
      clear hr hk1
      go_wp2_with fail
      go_ret
      exact ⟨rfl, X.out⟩
    · have CG := Lib.hid (Bi.get_no w w0.heap.size R D s.at_ false ys h.rd k (Or.inr (Or.inr (by have := h.far; omega))))
      have e1 : Ref.get ys k s = (0, s.fail 20) := by unfold Ref.get; rw [if_pos (by omega)]
      rw [e1]
      have HR := Lib.hid (fun q => h.drewN q)
      clear h e0 e1 hfit h0
      go_enter Tryd.func21, Tryd.ntmps21
      go_wp2_with fail
      refine CG.out.mono ?_
      rintro e1 w1 ⟨rfl, q, rfl⟩
      have HN := Lib.hid (HR.out q)
      have CF := Lib.hid (fail_st HN.out.1 20 (by omega))
      go_wp2_with fail
      refine CF.out.mono ?_
      rintro e3 w3 ⟨rfl, hm3, hk3, hc3⟩
      have X := Lib.hid (And.intro hm3 (And.intro (Kept.trans HN.out.2 hk3) (hc3.trans (show (w.drewN q).cell? ⟨P, 1, none⟩ = w.cell? ⟨P, 1, none⟩ from rfl))))
      clear hm3 hk3 hc3
      go_wp2_with fail
      go_ret
      exact ⟨rfl, X.out⟩
  · have e0 : num ys k s = (0, s) := by unfold num; rw [if_pos h0]
    have u : (s.e != 0) = true := by simpa using h0
    have u2 : (s.e == 0) = false := by simpa using h0
    have u3 : decide (s.e = 0) = false := by simpa using h0
    have X := Lib.hid (And.intro h (Kept.refl K w))
    rw [e0]
    clear h e0
    go_enter Tryd.func21, Tryd.ntmps21
    go_wp2_with fail
    go_ret
    exact ⟨rfl, X.out.1, X.out.2, rfl⟩

theorem number_any (h : Pm w0 P R D ys most K f1 f2 s w) (k : Nat) (hk : k ≤ 24) :
    Calls Tryd.prog 21 #[.pointer (some ⟨P, 0, none⟩), .int .i64 k] w (Ends w0 P R D ys most K f1 f2 (num ys k s).2 w (.int .i64 (num ys k s).1)) := (number_st h k hk).mono fun _ _ h => h.ends

/-- Is there room for so many more? -/
def roomS (most : Int) (n : Nat) (s : St) : St := if most < ((s.out.length + n : Nat) : Int) then s.fail 24 else s
set_option maxHeartbeats 1600000 in
theorem room_any (h : Pm w0 P R D ys most K f1 f2 s w) (n : Nat) (hn : n ≤ 16777216) :
    Calls Tryd.prog 43 #[.pointer (some ⟨P, 0, none⟩), .int .i64 n] w (Ends w0 P R D ys most K f1 f2 (roomS most n s) w (.tuple #[])) := by
  obtain ⟨c0, c2, c3, c4, c5, cf⟩ := h.cells
  obtain ⟨aa, cap, c1⟩ := h.outCell
  have hroom := h.room
  have HM := Lib.hid h
  obtain ⟨ol, hol⟩ : ∃ ol, ol = s.out.length := ⟨_, rfl⟩
  rw [← hol] at c1 hroom
  have w1 : IntKind.i64.wrap (most - (ol : Int)) = most - (ol : Int) := wrap_i64 _ (by omega) (by omega)
  by_cases hbig : most - (ol : Int) < (n : Int)
  · have e : roomS most n s = s.fail 24 := by unfold roomS; rw [if_pos (by rw [← hol]; omega)]
    have u : decide (most - (ol : Int) < (n : Int)) = true := by simpa using hbig
    rw [e]
    clear h hol e hbig
    go_enter Tryd.func43, Tryd.ntmps43
    go_wp2_with fail
    go_quiet (fail)
    have HN := Lib.hid (HM.out.drewN nq)
    have CF := Lib.hid (fail_any HN.out.1 24 (by omega))
    clear w1
    go_wp2_with fail
    refine CF.out.mono ?_
    rintro e3 w3 ⟨rfl, hm3, hk3⟩
    have X := Lib.hid (And.intro hm3 (Kept.trans HN.out.2 hk3))
    clear hm3 hk3
    go_wp2_with fail
    go_end0
    exact ⟨rfl, X.out⟩
  · have e : roomS most n s = s := by unfold roomS; rw [if_neg (by rw [← hol]; omega)]
    have u : decide (most - (ol : Int) < (n : Int)) = false := by simpa using hbig
    rw [e]
    clear h hol e hbig
    go_enter Tryd.func43, Tryd.ntmps43
    go_wp2_with fail
    go_quiet (fail)
    have X := Lib.hid (HM.out.drewN nq)
    clear w1
    go_wp2_with fail
    go_end0
    exact ⟨rfl, X.out⟩
end Go.Proofs.YtpmoknnhgginjaaDoor.Pr

/- The program's bases and extra bits; what comes out, a byte more; literal. -/
namespace Go.Proofs.YtpmoknnhgginjaaDoor.Pr
open Go.RowKit Lzz Ref
set_option linter.unusedVariables false
variable {w0 w w2 : World} {P R D : Nat} {ys : List Nat} {most : Int} {K : Nat → Prop} {f1 f2 : Value} {s : St}

/-- A symbol's base and extra bits, by groups. -/
def baseP (g j : Nat) : Nat × Nat := if j < g then (j, 0) else ((g + j % g) * 2 ^ (j / g - 1), j / g - 1)
theorem baseP_len : ∀ j, j < 28 → (3 + (baseP 4 j).1, (baseP 4 j).2) = lengthP j := by decide
theorem baseP_dist : ∀ t, t < 30 → (1 + (baseP 2 t).1, (baseP 2 t).2) = distP t := by decide
theorem baseP_le4 : ∀ j, j < 28 → (baseP 4 j).1 ≤ 300 ∧ (baseP 4 j).2 ≤ 13 := by decide
theorem baseP_le2 : ∀ j, j < 30 → (baseP 2 j).1 ≤ 32768 ∧ (baseP 2 j).2 ≤ 13 := by decide
theorem wrap_nat {n : Nat} (h : n ≤ 1000000) : IntKind.i64.wrap (n : Int) = (n : Int) := wrap_i64 _ (by omega) (by omega)
theorem base_nums (g j : Nat) (hg : g = 2 ∨ g = 4) (hj : j < 30) (h : ¬ j < g) (hb : (baseP g j).1 ≤ 32768) : ∃ q r x z y : Nat, baseP g j = (y, x) ∧ (j : Int) / (g : Int) = (q : Int) ∧ (j : Int).tdiv (g : Int) = (q : Int) ∧ (j : Int).tmod (g : Int) = (r : Int) ∧ (j : Int) % (g : Int) = (r : Int) ∧ (q : Int) - 1 = (x : Int) ∧ (g : Int) + (r : Int) = (z : Int) ∧ (z : Int) * 2 ^ x = (y : Int) ∧ q ≤ 15 ∧ x ≤ 14 ∧ z ≤ 8 ∧ y ≤ 32768 ∧ 1 ≤ q := by
  have hg0 : 0 < g := by omega
  have e : baseP g j = ((g + j % g) * 2 ^ (j / g - 1), j / g - 1) := by unfold baseP; rw [if_neg h]
  have hq1 : 1 ≤ j / g := (Nat.le_div_iff_mul_le hg0).2 (by omega)
  have hr := Nat.mod_lt j hg0
  have hq15 : j / g ≤ 15 := by rcases hg with rfl | rfl <;> omega
  rw [e] at hb
  refine ⟨j / g, j % g, j / g - 1, g + j % g, (g + j % g) * 2 ^ (j / g - 1), e, rfl, rfl, rfl, rfl, ?_, ?_, ?_, hq15, ?_, ?_, hb, hq1⟩
  · generalize j / g = q at *; omega
  · simp
  · simp
  · generalize j / g = q at *; omega
  · generalize j % g = r at *; omega
set_option maxRecDepth 100000 in
set_option maxHeartbeats 1600000 in
theorem base_any (w : World) (g j : Nat) (hg : g = 2 ∨ g = 4) (hj : j < 30) (hb : (baseP g j).1 ≤ 32768) :
    Calls Tryd.prog 60 #[.int .i64 j, .int .i64 g] w fun e w' => e = .returned (.tuple #[.int .i64 ((baseP g j).1 : Nat), .int .i64 ((baseP g j).2 : Nat)]) ∧ w' = w := by
  have hg0 : 0 < g := by omega
  by_cases h : j < g
  · have e : baseP g j = (j, 0) := by unfold baseP; rw [if_pos h]
    have un : decide (j < g) = true := by simpa using h
    rw [e]
    clear e hb hg
    go_enter Tryd.func60, Tryd.ntmps60
    go_wp2
    go_ret2
    exact ⟨rfl, rfl⟩
  · obtain ⟨q, r, x, z, y, e, e1, e2, e3, e4, e5, e6, e7, b1, b2, b3, b4, b5⟩ := base_nums g j hg hj h hb
    have un : decide (j < g) = false := by simpa using h
    rw [e]
    have k1 : IntKind.i64.wrap (q : Int) = (q : Int) := wrap_nat (by omega)
    have k2 : IntKind.i64.wrap ((q : Int) - 1) = (x : Int) := by rw [e5]; exact wrap_nat (by omega)
    have k3 : IntKind.i64.wrap ((g : Int) + (r : Int)) = (z : Int) := by rw [e6]; exact wrap_nat (by omega)
    have k4 : IntKind.i64.wrap ((z : Int) * 2 ^ x) = (y : Int) := by rw [e7]; exact wrap_nat (by omega)
    have k5 : min x 64 = x := Nat.min_eq_left (by omega)
    have k7 : ((g : Int) == 0) = false := by simp; omega
    clear e hg hb hj
    go_enter Tryd.func60, Tryd.ntmps60
    go_wp2
    go_ret2
    exact ⟨rfl, rfl⟩
set_option maxHeartbeats 800000 in
theorem lengthBase_any (w : World) (j : Nat) (hj : j ≤ 28) : Calls Tryd.prog 54 #[.int .i64 ((257 + j : Nat) : Int)] w fun e w' => e = .returned (.tuple #[.int .i64 ((lengthP j).1 : Nat), .int .i64 ((lengthP j).2 : Nat)]) ∧ w' = w := by
  by_cases h28 : j = 28
  · subst h28
    go_enter Tryd.func54, Tryd.ntmps54
    go_wp2_with fail
    go_ret2
    exact ⟨rfl, rfl⟩
  · have hb := baseP_le4 j (by omega)
    have C := base_any w 4 j (Or.inr rfl) (by omega) (by omega)
    have e := baseP_len j (by omega)
    rw [← e]
    generalize baseP 4 j = b at *
    obtain ⟨b, x⟩ := b
    obtain ⟨t, ht⟩ : ∃ t, t = 257 + j := ⟨_, rfl⟩
    have u : ((t : Int) == 285) = false := by simp; omega
    have k1 : (t : Int) - 256 - 1 = (j : Int) := by omega
    have k2 : IntKind.i64.wrap ((t : Int) - 256) = (t : Int) - 256 := wrap_i64 _ (by omega) (by omega)
    have k3 : (3 : Int) + (b : Int) = ((3 + b : Nat) : Int) := by omega
    rw [← ht]
    have C := Lib.hid C
    try simp only at C hb
    have K3 := Lib.hid k3
    clear e ht k3
    go_enter Tryd.func54, Tryd.ntmps54
    go_wp2_with fail
    refine C.out.mono ?_
    rintro e2 w2 ⟨rfl, hw2⟩
    obtain rfl := hw2.symm
    go_wp2_with fail
    go_ret2
    exact ⟨by rw [← K3.out]; rfl, rfl⟩
set_option maxHeartbeats 800000 in
theorem distBase_any (w : World) (t : Nat) (ht : t ≤ 29) : Calls Tryd.prog 61 #[.int .i64 (t : Nat)] w fun e w' => e = .returned (.tuple #[.int .i64 ((distP t).1 : Nat), .int .i64 ((distP t).2 : Nat)]) ∧ w' = w := by
  have hb := baseP_le2 t (by omega)
  have C := base_any w 2 t (Or.inl rfl) (by omega) (by omega)
  have e := baseP_dist t (by omega)
  rw [← e]
  generalize baseP 2 t = b at *
  obtain ⟨b, x⟩ := b
  have k3 : (1 : Int) + (b : Int) = ((1 + b : Nat) : Int) := by omega
  have C := Lib.hid C
  try simp only at C hb
  have K3 := Lib.hid k3
  clear e k3
  go_enter Tryd.func61, Tryd.ntmps61
  go_wp2_with fail
  refine C.out.mono ?_
  rintro e2 w2 ⟨rfl, hw2⟩
  obtain rfl := hw2.symm
  go_wp2_with fail
  go_ret2
  exact ⟨by rw [← K3.out]; rfl, rfl⟩

/-- What comes out, as it lies. -/
structure Out (w0 : World) (P : Nat) (s : St) (w : World) (aa : Option Addr) (cap : Nat) : Prop where
  cell : w.cell? ⟨P, 1, none⟩ = some (.slice aa s.out.length cap)
  own : w.ownsRow w0.heap.size 5 1 (.slice aa s.out.length cap) s.out.length (bys s.out)
  apart : (Value.slice aa s.out.length cap).ownBlock ≠ some P
theorem Pm.out (h : Pm w0 P R D ys most K f1 f2 s w) : ∃ aa cap, Out w0 P s w aa cap ∧
    ∀ (y : Nat) (W w2 : World) (aa2 : Option Addr) (cap2 M : Nat), y < 256 → (s.out.length : Int) < most → Below w.heap.size w W → w2.ownsRow w0.heap.size 5 1 (.slice aa2 (s.out.length + 1) cap2) (s.out.length + 1) (bys (s.out ++ [y])) → W.grownBy w2 (Value.slice aa s.out.length cap).ownBlock →
      ((Value.slice aa2 (s.out.length + 1) cap2).ownBlock = (Value.slice aa s.out.length cap).ownBlock ∨ (Value.slice aa2 (s.out.length + 1) cap2).ownBlock = some M) → w.heap.size ≤ M →
      (w2.cell? ⟨P, 1, none⟩ = some (.slice aa s.out.length cap) ∧ w2.frozen? ⟨P, 1, none⟩ = false) ∧
      Pm w0 P R D ys most K f1 f2 { s with out := s.out ++ [y] } (w2.setCell ⟨P, 1, none⟩ (.slice aa2 (s.out.length + 1) cap2)) ∧ Kept K w (w2.setCell ⟨P, 1, none⟩ (.slice aa2 (s.out.length + 1) cap2)) := by
  have hP := h.lt
  obtain ⟨aa, cap, h1, h2, h3, h4⟩ := h.blk
  refine ⟨aa, cap, ⟨by simp [World.cell?, h1], h2, h3⟩, fun y W w2 aa2 cap2 M hy hroom hW hown hg hat hM => ?_⟩
  have hold : Below w0.heap.size w0 w2 := grown_below (Nat.le_refl _) (below_more h.old hW (Nat.le_refl _)) hg (fun k e => (own_lt2 h2 k e).1)
  have hv : ∀ k, k < w.heap.size → (Value.slice aa s.out.length cap).ownBlock ≠ some k → (Value.slice aa2 (s.out.length + 1) cap2).ownBlock ≠ some k := by
    intro k hk hne
    rcases hat with e | e
    · rw [e]; exact hne
    · rw [e]; simp; omega
  have hkeep : ∀ k, k < w.heap.size → (Value.slice aa s.out.length cap).ownBlock ≠ some k → w2.heap[k]? = w.heap[k]? := fun k hk hne =>
    (hg.block k (Nat.lt_of_lt_of_le hk hW.size) (fun e => hne e.symm)).trans (hW.block k hk)
  have hP2 := hkeep P hP h3
  have hPb := hP2.trans h1
  have hsz : w.heap.size ≤ w2.heap.size := Nat.le_trans hW.size hg.size
  have hlt : ∀ k, K k ∨ k = R ∨ k = D → k < w.heap.size ∧ k ≠ P := by
    rintro k (hk | rfl | rfl)
    · exact ⟨(h.apart k hk).2.2.2, (h.apart k hk).1⟩
    · exact ⟨h.rd.lt.1, h.ne.1⟩
    · exact ⟨h.rd.lt.2, h.ne.2⟩
  have hkk : ∀ k, K k ∨ k = R ∨ k = D → (w2.setCell ⟨P, 1, none⟩ (.slice aa2 (s.out.length + 1) cap2)).heap[k]? = w.heap[k]? := fun k hk => (Below.heap_setCell _ _ _ _ (hlt k hk).2).trans (hkeep k (hlt k hk).1 (h4 k hk))
  refine ⟨⟨by simp [World.cell?, hPb], by simp [World.frozen?, hPb]⟩, ⟨⟨aa2, cap2, ?_, ?_, ?_, fun k hk => ?_⟩, h.at_, h.rd.kept (hkk R (Or.inr (Or.inl rfl))) (hkk D (Or.inr (Or.inr rfl))), h.ne, fun k hk => ⟨(h.apart k hk).1, (h.apart k hk).2.1, (h.apart k hk).2.2.1, ?_⟩, both_lt h.byte (by intro z hz; simp at hz; omega), h.err, below_set hold h.at_ _, ?_⟩, fun k hk => hkk k (Or.inl hk)⟩
  · rw [block_set hPb]; simp
  · have := ownsRow_setCell_other (a := ⟨P, 1, none⟩) hown (hv P hP h3) (.slice aa2 (s.out.length + 1) cap2)
    simp only [List.length_append, List.length_singleton]
    exact this
  · simp only [List.length_append, List.length_singleton]
    exact hv P hP h3
  · simp only [List.length_append, List.length_singleton]
    exact hv k (hlt k hk).1 (h4 k hk)
  · have := (h.apart k hk).2.2.2
    simp [World.setCell]
    omega
  · have := h.room
    simp only [List.length_append, List.length_singleton]
    omega

/-- A byte, if there is room. -/
def litS (most : Int) (y : Nat) (s : St) : St := if (roomS most 1 s).e ≠ 0 then roomS most 1 s else { s with out := s.out ++ [y] }
theorem roomS_stay {most : Int} {n : Nat} {s : St} (h : (roomS most n s).e = 0) : roomS most n s = s ∧ ((s.out.length + n : Nat) : Int) ≤ most := by
  unfold roomS at h ⊢
  split
  · rename_i hb; rw [if_pos hb] at h; exact absurd h (fail_e s 24 (by omega))
  · exact ⟨rfl, by omega⟩
set_option maxHeartbeats 1600000 in
theorem literal_any (h : Pm w0 P R D ys most K f1 f2 s w) (y : Nat) (hy : y < 256) :
    Calls Tryd.prog 45 #[.pointer (some ⟨P, 0, none⟩), .int .i64 y] w (Ends w0 P R D ys most K f1 f2 (litS most y s) w (.tuple #[])) := by
  have CR := Lib.hid (room_any h 1 (by omega))
  have hls := show litS most y s = if (roomS most 1 s).e ≠ 0 then roomS most 1 s else { s with out := s.out ++ [y] } from rfl
  have hst := @roomS_stay most 1 s
  have HST := Lib.hid hst
  have HLS := Lib.hid hls
  generalize roomS most 1 s = s1 at *
  generalize litS most y s = res at *
  clear hls hst h
  go_enter Tryd.func45, Tryd.ntmps45
  go_wp2_with fail
  refine CR.out.mono ?_
  rintro e1 w1 ⟨rfl, hm1, hk1⟩
  obtain ⟨c0, c2, c3, c4, c5, cf⟩ := hm1.cells
  by_cases he : s1.e = 0
  · rw [he] at c3
    obtain ⟨rfl, hrm⟩ := HST.out he
    have hls := HLS.out
    rw [if_neg (by simp [he])] at hls
    have HR := Lib.hid hls
    obtain ⟨aa, cap, ho, hpush⟩ := hm1.out
    have HO := Lib.hid ho
    have HPU := Lib.hid hpush
    have c1 := ho.cell
    obtain ⟨ol, hol⟩ : ∃ ol, ol = s1.out.length := ⟨_, rfl⟩
    rw [← hol] at c1
    have HOL := Lib.hid hol
    have hob : ol ≤ 16777216 := by have := hm1.room; omega
    have hw1 : w0.heap.size ≤ w1.heap.size := hm1.old.size
    have hu8 : IntKind.u8.wrap (y : Int) = (y : Int) := by simp [IntKind.wrap, IntKind.bits, IntKind.signed]; omega
    have WA := Lib.hid (show Below w1.heap.size w1 (w1.alloc (.cells #[.int .u8 (y : Nat)] 5)) from (Below.refl _ _).alloc (Nat.le_refl _) _)
    have OB := Lib.hid (one_byte w1 y hy)
    have HK := Lib.hid hk1
    have HRM := Lib.hid hrm
    clear hm1 hk1 ho hpush hol hls hrm CR
    go_wp2_with (at_builtin; go_must (refine wpList_append_text rfl (.tmp 15) (.tmp 18) rfl w0.heap.size ol (.slice aa ol cap) s1.out rfl ?f1 (some ⟨w1.heap.size, 0, none⟩) 1 1 [y] rfl ?f2 (by intro e; cases e) (by omega) (by omega) ?f3 ?f4))
    case f1 =>
      have h := HO.out.own
      rw [← HOL.out] at h
      exact own_kept2 h (fun k e => WA.out.block k (own_lt2 h k e).2)
    case f2 => exact OB.out
    case f3 => first | (simp; omega) | omega | exact Nat.le_succ_of_le hw1
    case f4 =>
      intro aa2 cap2 w6 hown hg hat
      rw [HOL.out] at hown hat hg
      obtain ⟨⟨z0, z1⟩, z2, z3⟩ := HPU.out y _ w6 aa2 cap2 _ hy (by have := HRM.out; omega) WA.out hown hg hat (Nat.le_succ _)
      rw [← HOL.out] at z0 z2 z3
      have X := Lib.hid (And.intro z2 (Kept.trans HK.out z3))
      clear hown hg hat z2 z3
      go_wp2_with fail
      go_end0
      exact ⟨rfl, by rw [HR.out]; exact X.out.1, X.out.2⟩
  · have u5 : (s1.e != 0) = true := by simpa using he
    have u6 : (s1.e == 0) = false := by simpa using he
    have u7 : decide (s1.e = 0) = false := by simpa using he
    have hls := HLS.out
    rw [if_pos he] at hls
    have X := Lib.hid (show Ends w0 P R D ys most K f1 f2 res w (.tuple #[]) (.returned (.tuple #[])) w1 from by rw [hls]; exact ⟨rfl, hm1, hk1⟩)
    clear hm1 hk1 hls
    go_wp2_with fail
    go_end0
    exact X.out
end Go.Proofs.YtpmoknnhgginjaaDoor.Pr

/- A call as a step of a region that draws; the program's plain block. -/
namespace Go.Proofs.YtpmoknnhgginjaaDoor.Pr
open Go.RowKit Lzz Ref
set_option linter.unusedVariables false
variable {w0 w w2 : World} {P R D : Nat} {ys : List Nat} {most : Int} {K : Nat → Prop} {f1 f2 : Value} {s : St}

theorem step_call {w : World} {ops : Array Oper} {o : Oper} {a : Act} {K : Act → World → Prop} {Q : Exit → Act → World → Prop} {E : Prop} (hgd : o.guard = none) (f : Nat) (xs : Array Operand) (ts : Array TypeId) (ho : o.op = .call { callee := .value (.func f), args := xs, argTypes := ts })
    (hcf : ∀ vs w, (callFunc f vs).run Tryd.prog w = .ok (.enter f vs) w) (vs : Array Value) (hv : xs.toList.map a.eval = vs.toList) (v : Value) (X : World → Prop) (C : Calls Tryd.prog f vs w fun e w' => e = .returned v ∧ X w') (h : ∀ w', X w' → K (a.put o.dst v) w') :
    if Region.wanted o (yielded ops a.tmps) = true then Oper.wp Tryd.prog o a w K Q else E := by
  have hw : Region.wanted o (yielded ops a.tmps) = true := by simp [Region.wanted, hgd]
  rw [if_pos hw]
  have hv2 : xs.map a.eval = vs := Array.toList_inj.1 (by rw [Array.toList_map]; exact hv)
  unfold Oper.wp
  have e : (execOp a.eval o).run Tryd.prog w = .ok (.enter f (xs.map a.eval)) w := by
    unfold execOp
    simp [ho, resolve, invoke, Act.eval, Deferred.ofValue, Sem.run_bind, Sem.run_pure]
    exact hcf _ _
  rw [e, Oper.upon_enter, hv2]
  refine C.mono ?_
  rintro e w' ⟨rfl, hx⟩
  exact h w' hx
end Go.Proofs.YtpmoknnhgginjaaDoor.Pr
