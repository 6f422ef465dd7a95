/- A reader in memory; reader.fail, reader.number. -/
import Derived.Test.YtcdhpidglchinaaE
namespace Go.Proofs.Ytcdhpidglchinaa
open Go.RowKit Go.Lib Pk
set_option linter.unusedSimpArgs false
set_option linter.unusedVariables false

/-- A reader in block P; its bytes lie in blocks below Q. -/
structure RdP (w : World) (Q P : Nat) (s : St) (g : Hd) : Prop where
  block : w.heap[P]? = some (.cells #[.slice g.a g.n g.c, .int .i64 (s.f : Int)] 54 (0, 0))
  cells : Cells 1 w g (bys s.ys)
  low : ∀ x, g.a = some x → 0 < g.n → x.block < Q
  le : Q ≤ P
  lt : ∀ y ∈ s.ys, y < 256
  ok : s.Ok
def Rd (w : World) (Q P : Nat) (s : St) : Prop := ∃ g : Hd, RdP w Q P s g
/-- Behind a call that a reader goes on by. -/
def RNext (w : World) (Q P : Nat) (s : St) (w' : World) : Prop := Rd w' Q P s ∧ Keeps (fun k => k = P) w w'
theorem Rd.lt {w : World} {Q P : Nat} {s : St} (h : Rd w Q P s) : P < w.heap.size := by obtain ⟨g, h⟩ := h; exact lt_of_block h.block
theorem Rd.keep {X : Nat → Prop} {w w' : World} {Q P : Nat} {s : St} (h : Rd w Q P s) (k : Keeps X w w') (hX : ∀ i, X i → Q ≤ i ∧ i ≠ P) : Rd w' Q P s := by
  obtain ⟨g, h⟩ := h
  exact ⟨g, (k.block P (lt_of_block h.block) (fun x => (hX P x).2 rfl)).trans h.block, h.cells.keep k (fun x hx hp hy => by have := h.low x hx hp; have := (hX _ hy).1; omega), h.low, h.le, h.lt, h.ok⟩
theorem Rd.later {w w' : World} {Q P : Nat} {s : St} (h : Rd w Q P s) (k : Keeps none' w w') : Rd w' Q P s := h.keep k (fun _ x => x.elim)
theorem rd_set {w : World} {Q P : Nat} {s s' : St} {g g' : Hd} (h : RdP w Q P s g) (w' : World) (k : Keeps (fun k => k = P) w w') (hb : w'.heap[P]? = some (.cells #[.slice g'.a g'.n g'.c, .int .i64 (s'.f : Int)] 54 (0, 0))) (hc : Cells 1 w g' (bys s'.ys)) (hlow : ∀ x, g'.a = some x → 0 < g'.n → x.block < Q) (hlt : ∀ y ∈ s'.ys, y < 256) (ok : s'.Ok) : RNext w Q P s' w' :=
  ⟨⟨g', hb, hc.keep k (fun x hx hp e => by have := hlow x hx hp; have := h.le; omega), hlow, h.le, hlt, ok⟩, k⟩
theorem keeps_at (w : World) (P i : Nat) (v : Value) : Keeps (fun k => k = P) w (w.setCell ⟨P, i, none⟩ v) := (Keeps.refl (fun k => k = P) w).setCell (p := ⟨P, i, none⟩) (fun _ => rfl) v
set_option maxHeartbeats 400000 in
theorem rfail_any (w : World) (Q P : Nat) (s : St) (e : Nat) (h : Rd w Q P s) : Calls Try.prog 36 #[.pointer (some ⟨P, 0, none⟩), .int .i64 (e : Int)] w fun en w' => en = .returned (.tuple #[]) ∧ RNext w Q P (s.fail e) w' := by
  obtain ⟨g, h⟩ := h
  have H := Lib.hid h
  have b0 := h.block
  have c0 : w.cell? ⟨P, 0, none⟩ = some (.slice g.a g.n g.c) := cell_at (i := 0) b0 rfl
  have c1 : w.cell? ⟨P, 1, none⟩ = some (.int .i64 (s.f : Int)) := cell_at (i := 1) b0 rfl
  have f0 := free_at (i := 0) b0
  have f1 := free_at (i := 1) b0
  clear b0 h
  by_cases hf : s.f = 0
  · have hb : ((s.f : Int) == 0) = true := by rw [hf]; rfl
    rw [hf] at c1
    have k1 : ∀ v, (w.setCell ⟨P, 1, none⟩ v).cell? ⟨P, 0, none⟩ = some (.slice g.a g.n g.c) := fun v => cell_at (block_set H.out.block v) rfl
    have k2 : ∀ v, (w.setCell ⟨P, 1, none⟩ v).frozen? ⟨P, 0, none⟩ = false := fun v => free_at (block_set H.out.block v)
    have k1' := k1 (.int .i64 (e : Int))
    have k2' := k2 (.int .i64 (e : Int))
    clear k1 k2
    go_enter Try.func36, Try.ntmps36
    go_wp2_with fail
    go_end0
    refine ⟨rfl, rd_set (g' := Hd.nil) H.out _ ((keeps_at w P 1 _).trans (keeps_at _ P 0 _) (fun _ _ h => h)) ?_ (Cells.nil 1 w) (fun x hx _ => by cases hx) (fun y hy => by cases hy) (s.fail_ok e)⟩
    rw [block_set (block_set H.out.block _)]
    simp [St.fail, hf, Hd.nil]
  · have hb : ((s.f : Int) == 0) = false := by simp [hf]
    go_enter Try.func36, Try.ntmps36
    go_wp2_with fail
    go_end0
    refine ⟨rfl, rd_set (g' := Hd.nil) H.out _ (keeps_at w P 0 _) ?_ (Cells.nil 1 w) (fun x hx _ => by cases hx) (fun y hy => by cases hy) (s.fail_ok e)⟩
    rw [block_set H.out.block _]
    simp [St.fail, hf, Hd.nil]
/-- What stands of a number when i bytes have been read. -/
def addE (A i : Nat) : Except Nat (Nat × List Nat) → Except Nat (Nat × List Nat)
  | .ok (z, r) => .ok (A + z * 128 ^ i, r)
  | .error e => .error e
def OnWay (ys : List Nat) (A i : Nat) : Prop := dec 0 ys = addE A i (dec i (ys.drop i)) ∧ A < 128 ^ i ∧ i ≤ 9
theorem onway0 (ys : List Nat) : OnWay ys 0 0 := by
  refine ⟨?_, by simp, by omega⟩
  rw [List.drop_zero]
  cases dec 0 ys with
  | error e => rfl
  | ok p =>
    obtain ⟨z, r⟩ := p
    simp [addE]
theorem drop_at {ys : List Nat} {i y : Nat} (h : ys[i]? = some y) : ys.drop i = y :: ys.drop (i + 1) := by
  have hi := (List.getElem?_eq_some_iff.1 h).1
  rw [List.drop_eq_getElem_cons hi]
  congr 1
  rw [List.getElem?_eq_getElem hi] at h
  exact Option.some.inj h
theorem onway_bad {ys : List Nat} {A i y : Nat} (h : OnWay ys A i) (hy : ys[i]? = some y) (hb : (0 < i ∧ y = 0) ∨ (i = 9 ∧ 1 < y)) : dec 0 ys = .error 25 := by
  rw [h.1, drop_at hy, dec, if_pos hb]
  rfl
theorem onway_end {ys : List Nat} {A i y : Nat} (h : OnWay ys A i) (hy : ys[i]? = some y) (hb : ¬ ((0 < i ∧ y = 0) ∨ (i = 9 ∧ 1 < y))) (hl : y < 128) : dec 0 ys = .ok (A + y * 128 ^ i, ys.drop (i + 1)) := by
  rw [h.1, drop_at hy, dec, if_neg hb, if_pos hl]
  rfl
theorem onway_next {ys : List Nat} {A i y : Nat} (h : OnWay ys A i) (hy : ys[i]? = some y) (hb : ¬ ((0 < i ∧ y = 0) ∨ (i = 9 ∧ 1 < y))) (hl : ¬ y < 128) : OnWay ys (A + y % 128 * 128 ^ i) (i + 1) := by
  obtain ⟨h1, h2, h3⟩ := h
  refine ⟨?_, ?_, by omega⟩
  · rw [h1, drop_at hy]
    conv => lhs; rw [dec]
    rw [if_neg hb, if_neg hl]
    cases dec (i + 1) (ys.drop (i + 1)) with
    | error e => rfl
    | ok p =>
      obtain ⟨z, r⟩ := p
      simp only [addE]
      congr 2
      rw [Nat.add_mul, Nat.pow_succ, Nat.mul_comm (128 ^ i) 128, ← Nat.mul_assoc z, Nat.mul_comm z 128]
      omega
  · rw [Nat.pow_succ]
    have h4 : y % 128 * 128 ^ i ≤ 127 * 128 ^ i := Nat.mul_le_mul_right _ (by omega)
    omega
theorem onway_short {ys : List Nat} {A i : Nat} (h : OnWay ys A i) (hi : ys.length ≤ i) : dec 0 ys = .error 20 := by
  rw [h.1, List.drop_of_length_le hi]
  rfl
/-- How great a number is that is read so far. -/
theorem onway_lt {ys : List Nat} {A i y : Nat} (h : OnWay ys A i) (hb : ¬ ((0 < i ∧ y = 0) ∨ (i = 9 ∧ 1 < y))) : A + y % 128 * 128 ^ i < 18446744073709551616 := by
  obtain ⟨h1, h2, h3⟩ := h
  rcases (show i = 9 ∨ i ≤ 8 by omega) with rfl | hi
  · have : y ≤ 1 := by omega
    have h4 : y % 128 * 128 ^ 9 ≤ 1 * 128 ^ 9 := Nat.mul_le_mul_right _ (by omega)
    have h5 : (128 : Nat) ^ 9 * 2 = 18446744073709551616 := by decide
    omega
  · have h4 : y % 128 * 128 ^ i ≤ 127 * 128 ^ i := Nat.mul_le_mul_right _ (by omega)
    have h5 : (128 : Nat) ^ i ≤ 128 ^ 8 := Nat.pow_le_pow_right (by decide) hi
    have h6 : (128 : Nat) ^ 8 * 128 < 18446744073709551616 := by decide
    omega
theorem or_word {A c i : Nat} (hA : A < 128 ^ i) (h : A + c * 128 ^ i < 18446744073709551616) : bits .or .u64 (A : Int) ((c * 128 ^ i : Nat) : Int) = ((A + c * 128 ^ i : Nat) : Int) := by
  rw [u64_or_nat _ _ (by omega) (by omega)]
  congr 1
  have e : (128 : Nat) ^ i = 2 ^ (7 * i) := by rw [show (128 : Nat) = 2 ^ 7 from rfl, ← Nat.pow_mul]
  rw [Nat.or_comm, nat_join (7 * i) _ _ (by rw [e]; exact Nat.mul_mod_left _ _) (by rw [← e]; exact hA)]
  omega
theorem xor_not (x : Int) (h0 : 0 ≤ x) (h1 : x < 9223372036854775808) : bits .xor .i64 x (-1) = -1 - x := by
  obtain ⟨n, rfl⟩ : ∃ n : Nat, x = n := ⟨x.toNat, by omega⟩
  have hn : n < 9223372036854775808 := by omega
  show IntKind.i64.wrap ((BitVec.ofInt 64 (n : Int) ^^^ BitVec.ofInt 64 (-1)).toNat : Int) = _
  have e1 : BitVec.ofInt 64 (-1) = BitVec.allOnes 64 := by decide
  rw [e1, BitVec.xor_allOnes, BitVec.toNat_not, ofInt_u64 n (by omega)]
  simp [IntKind.wrap, IntKind.bits, IntKind.signed]
  omega
theorem xor_zero (x : Int) (h0 : 0 ≤ x) (h1 : x < 9223372036854775808) : bits .xor .i64 x 0 = x := by
  obtain ⟨n, rfl⟩ : ∃ n : Nat, x = n := ⟨x.toNat, by omega⟩
  show IntKind.i64.wrap ((BitVec.ofInt 64 (n : Int) ^^^ BitVec.ofInt 64 0).toNat : Int) = _
  have e1 : BitVec.ofInt 64 0 = 0#64 := by decide
  rw [e1, BitVec.xor_zero, ofInt_u64 n (by omega), wrap_i64 _ (by omega) (by omega)]
theorem zag_word {Z : Nat} (h : Z < 18446744073709551616) : bits .xor .i64 (((Z / 2 : Nat)) : Int) (-((Z % 2 : Nat) : Int)) = zag Z := by
  unfold zag
  rcases (show Z % 2 = 0 ∨ Z % 2 = 1 by omega) with e | e
  · rw [e, if_pos rfl]
    exact xor_zero _ (by omega) (by omega)
  · rw [e, if_neg (by omega)]
    exact xor_not _ (by omega) (by omega)
theorem Cells.drop {w : World} {a : Option Addr} {r c k : Nat} {vs : List Value} (h : Cells 1 w ⟨a, r, c⟩ vs) (hk : k ≤ r) : Cells 1 w ⟨if c = k then a else a.map (fun x => x.add k), r - k, c - k⟩ (vs.drop k) := by
  have hl := h.len
  have hc := h.cap
  simp only at hl hc
  refine ⟨by simp [hl], by show r - k ≤ c - k; omega, ?_, fun u hu => h.one u (List.mem_of_mem_drop hu), ?_⟩
  · intro e
    simp only at e
    have ha : a = none := by
      split at e
      · exact e
      · cases a with
        | none => rfl
        | some x => cases e
    have := h.abs ha
    simp only at this
    show r - k = 0 ∧ c - k = 0
    omega
  · intro x hx hp
    simp only at hx
    cases a with
    | none => split at hx <;> cases hx
    | some y =>
      obtain ⟨h1, h2, h3⟩ := h.at' y rfl (by show 0 < r; simp only at hp; omega)
      obtain ⟨b, off, sp⟩ := y
      simp only at h1 h2 h3
      subst h1
      split at hx
      · rename_i hck
        cases hx
        refine ⟨rfl, h2, fun j u hj => ?_⟩
        rw [List.getElem?_drop] at hj
        have := (List.getElem?_eq_some_iff.1 hj).1
        omega
      · simp only [Option.map_some, Option.some.injEq] at hx
        rw [add_spot] at hx
        cases hx
        refine ⟨rfl, h2, fun j u hj => ?_⟩
        rw [List.getElem?_drop] at hj
        simp only
        rw [Nat.add_assoc]
        exact h3 _ _ hj
theorem bys_at {ys : List Nat} {i y : Nat} (h : ys[i]? = some y) : (bys ys)[i]? = some (.int .u8 (y : Int)) := by simp [bys, h]
theorem bys_drop (ys : List Nat) (i : Nat) : (bys ys).drop i = bys (ys.drop i) := by simp [bys]
theorem or_word' {A y i : Nat} (hA : A < 128 ^ i) (h : A + y % 128 * 128 ^ i < 18446744073709551616) : bits .or .u64 (A : Int) (IntKind.u64.wrap ((y : Int) % 128 * 2 ^ (i * 7))) = ((A + y % 128 * 128 ^ i : Nat) : Int) := by
  rw [← or_word hA h]
  congr 1
  have e : (2 : Nat) ^ (i * 7) = 128 ^ i := by rw [Nat.mul_comm, show (128 : Nat) = 2 ^ 7 from rfl, ← Nat.pow_mul]
  have e2 : (y : Int) % 128 * 2 ^ (i * 7) = ((y % 128 * 128 ^ i : Nat) : Int) := by rw [← e]; simp
  rw [e2]
  have : y % 128 * 128 ^ i < 18446744073709551616 := by omega
  generalize y % 128 * 128 ^ i = q at *
  simp [IntKind.wrap, IntKind.bits, IntKind.signed]
  omega
theorem ret_int {k : IntKind} {a b : Int} (h : a = b) : Ending.returned (.int k a) = .returned (.int k b) := by rw [h]
theorem zag_word' {Z : Nat} (h : Z < 18446744073709551616) : bits .xor .i64 (wrap64 ((Z : Int) / 2)) (wrap64 (-wrap64 (bits .and .u64 (Z : Int) 1))) = zag Z := by
  have e1 : bits .and .u64 (Z : Int) 1 = ((Z % 2 : Nat) : Int) := by
    rw [show (1 : Int) = ((1 : Nat) : Int) from rfl, u64_and_nat _ _ h (by decide), nat_mask1]
  have e2 : wrap64 ((Z : Int) / 2) = ((Z / 2 : Nat) : Int) := by unfold wrap64; omega
  have e3 : wrap64 (-wrap64 ((Z % 2 : Nat) : Int)) = -((Z % 2 : Nat) : Int) := by unfold wrap64; omega
  rw [e1, e2, e3]
  exact zag_word h
theorem num_done {w : World} {Q P : Nat} {s : St} {b off n c i A2 : Nat} (H : RdP w Q P s ⟨some ⟨b, off, none⟩, n, c⟩) (hi : i < n) (hd : dec 0 s.ys = .ok (A2, s.ys.drop (i + 1))) (h64 : A2 < 18446744073709551616) {v : Value} (hv : v = .slice (if c = i + 1 then some ⟨b, off, none⟩ else some ⟨b, off + (i + 1), none⟩) (n - (i + 1)) (c - (i + 1))) :
    (num s).1 = zag A2 ∧ RNext w Q P (num s).2 (w.setCell ⟨P, 0, none⟩ v) := by
  have en : num s = (zag A2, ⟨s.f, s.ys.drop (i + 1)⟩) := by unfold num; rw [hd]
  rw [en]
  refine ⟨rfl, ?_⟩
  have C := H.cells.drop (k := i + 1) (by show i + 1 ≤ n; omega)
  have ea : (if c = i + 1 then (some ⟨b, off, none⟩ : Option Addr) else (some (⟨b, off, none⟩ : Addr)).map (fun x => x.add (i + 1))) = (if c = i + 1 then some ⟨b, off, none⟩ else some ⟨b, off + (i + 1), none⟩) := by
    simp only [Option.map_some, add_spot]
  rw [ea, bys_drop] at C
  subst hv
  refine rd_set (g' := ⟨if c = i + 1 then some ⟨b, off, none⟩ else some ⟨b, off + (i + 1), none⟩, n - (i + 1), c - (i + 1)⟩) H _ (keeps_at w P 0 _) ?_ C ?_ ?_ ?_
  · rw [block_set H.block]
    rfl
  · intro x hx _
    have := H.low ⟨b, off, none⟩ rfl (by show 0 < n; omega)
    simp only at hx
    split at hx <;> (cases hx; exact this)
  · intro y hy
    exact H.lt y (List.mem_of_mem_drop hy)
  · intro hf
    have := H.ok hf
    show s.ys.drop (i + 1) = []
    rw [this]
    rfl
set_option maxRecDepth 100000 in
set_option maxHeartbeats 1600000 in
theorem rnum_any (w : World) (Q P : Nat) (s : St) (h : Rd w Q P s) (hl : s.ys.length ≤ 1000000) : Calls Try.prog 38 #[.pointer (some ⟨P, 0, none⟩)] w fun en w' => en = .returned (.int .i64 (num s).1) ∧ RNext w Q P (num s).2 w' := by
  have F20 := Lib.hid (show Calls Try.prog 36 #[.pointer (some ⟨P, 0, none⟩), .int .i64 20] w (fun en w' => en = .returned (.tuple #[]) ∧ RNext w Q P (s.fail 20) w') from rfail_any w Q P s 20 h)
  have F25 := Lib.hid (show Calls Try.prog 36 #[.pointer (some ⟨P, 0, none⟩), .int .i64 25] w (fun en w' => en = .returned (.tuple #[]) ∧ RNext w Q P (s.fail 25) w') from rfail_any w Q P s 25 h)
  obtain ⟨⟨a, n, c⟩, h⟩ := h
  have H := Lib.hid h
  have b0 := h.block
  have hn : s.ys.length = n := by have := h.cells.len; rw [bys_length] at this; simpa using this
  have hn2 : n ≤ 1000000 := by omega
  have hcap : n ≤ c := h.cells.cap
  have HC := Lib.hid hcap
  have c0 : w.cell? ⟨P, 0, none⟩ = some (.slice a n c) := cell_at (i := 0) b0 rfl
  have f0 := free_at (i := 0) b0
  have HN := Lib.hid hn
  clear b0 h hl hn hcap
  have O0 := Lib.hid (onway0 s.ys)
  go_enter Try.func38, Try.ntmps38
  go_wp2_with fail
  go_loop [3, 11] (fun v u => ∃ i A : Nat, i ≤ n ∧ u = .int .i64 i ∧ v = .int .u64 A ∧ OnWay s.ys A i) (fun _ u => n - (intOf u).toNat)
  case atStart => exact ⟨0, 0, Nat.zero_le _, rfl, rfl, O0.out⟩
  case round =>
    obtain ⟨i, A, hi, rfl, rfl, hw⟩ := hrel
    have HW := Lib.hid hw
    have hi9 : i ≤ 9 := hw.2.2
    clear hw
    by_cases hlt : i < n
    · obtain ⟨y, hy⟩ : ∃ y, s.ys[i]? = some y := ⟨_, List.getElem?_eq_getElem (by have := HN.out; omega)⟩
      obtain ⟨b, off, e, hb, hc⟩ := H.out.cells.at (bys_at hy)
      simp only at e
      subst e
      have hy256 : y < 256 := H.out.lt y (at_mem hy)
      have HY := Lib.hid hy
      clear hy hb
      by_cases hbad : (0 < i ∧ y = 0) ∨ (i = 9 ∧ 1 < y)
      · have hd := Lib.hid (onway_bad HW.out HY.out hbad)
        have hnum : num s = (0, s.fail 25) := by unfold num; rw [hd.out]
        have HNU := Lib.hid hnum
        clear hnum
        rcases hbad with ⟨h1, h2⟩ | ⟨h1, h2⟩
        · have g1 : ((y : Int) == 0) = true := by rw [h2]; rfl
          clear h2
          go_wp2_with (go_at_call 36; ((with_reducible refine F25.out.mono ?_); rintro en w1 ⟨rfl, t1⟩; have T1 := Lib.hid t1; clear t1))
          go_ret
          rw [HNU.out]
          exact ⟨rfl, T1.out⟩
        · have g0 : 0 < i := by omega
          have g1 : ((y : Int) == 0) = false := by simp; omega
          have g2 : ((i : Int) == 9) = true := by rw [h1]; rfl
          have g3 : ¬ (y : Int) ≤ 1 := by omega
          have g4 : (1 : Int) < y := by omega
          clear h1 h2
          go_wp2_with (go_at_call 36; ((with_reducible refine F25.out.mono ?_); rintro en w1 ⟨rfl, t1⟩; have T1 := Lib.hid t1; clear t1))
          go_ret
          rw [HNU.out]
          exact ⟨rfl, T1.out⟩
      · have H1 := onway_lt HW.out hbad
        have o1 := or_word' (y := y) HW.out.2.1 H1
        obtain ⟨A2, hA2⟩ : ∃ A2, A2 = A + y % 128 * 128 ^ i := ⟨_, rfl⟩
        rw [← hA2] at o1
        have HA := Lib.hid (And.intro hA2 H1)
        clear hA2 H1
        have HB := Lib.hid hbad
        clear hbad
        by_cases h0 : 0 < i
        · have hy0 : ¬ y = 0 := by have := HB.out; omega
          have g1 : ((y : Int) == 0) = false := by simp [hy0]
          by_cases h9 : i = 9
          · have g2 : ((i : Int) == 9) = true := by rw [h9]; rfl
            have g3 : (y : Int) ≤ 1 := by have := HB.out; omega
            have g4 : y < 128 := by omega
            clear h9 hy0
            by_cases hy1 : y < 128
            · have HD := Lib.hid (onway_end HW.out HY.out HB.out hy1)
              have hy2 : y % 128 = y := by omega
              have NX := Lib.hid (fun v => num_done (v := v) H.out hlt (A2 := A2) (by rw [HD.out, HA.out.1, hy2]) (by rw [HA.out.1]; exact HA.out.2))
              clear hy2
              by_cases hcc : c = i + 1
              · have HCC := Lib.hid hcc
                go_wp2_with fail
                go_ret
                have X := NX.out _ (by rw [if_pos HCC.out])
                rw [HCC.out, Nat.sub_self] at X
                exact ⟨ret_int ((zag_word' (by rw [HA.out.1]; exact HA.out.2)).trans X.1.symm), X.2⟩
              · have HCC := Lib.hid hcc
                go_wp2_with fail
                go_ret
                have X := NX.out _ (by rw [if_neg HCC.out])
                exact ⟨ret_int ((zag_word' (by rw [HA.out.1]; exact HA.out.2)).trans X.1.symm), X.2⟩
            · exact absurd g4 hy1
          · have g2 : ¬ (i : Int) = 9 := by omega
            clear h9 hy0
            by_cases hy1 : y < 128
            · have HD := Lib.hid (onway_end HW.out HY.out HB.out hy1)
              have hy2 : y % 128 = y := by omega
              have NX := Lib.hid (fun v => num_done (v := v) H.out hlt (A2 := A2) (by rw [HD.out, HA.out.1, hy2]) (by rw [HA.out.1]; exact HA.out.2))
              clear hy2
              by_cases hcc : c = i + 1
              · have HCC := Lib.hid hcc
                go_wp2_with fail
                go_ret
                have X := NX.out _ (by rw [if_pos HCC.out])
                rw [HCC.out, Nat.sub_self] at X
                exact ⟨ret_int ((zag_word' (by rw [HA.out.1]; exact HA.out.2)).trans X.1.symm), X.2⟩
              · have HCC := Lib.hid hcc
                go_wp2_with fail
                go_ret
                have X := NX.out _ (by rw [if_neg HCC.out])
                exact ⟨ret_int ((zag_word' (by rw [HA.out.1]; exact HA.out.2)).trans X.1.symm), X.2⟩
            · have HD := Lib.hid (onway_next HW.out HY.out HB.out hy1)
              go_wp2_with fail
              go_round
              case rel => exact ⟨i + 1, A2, by omega, by go_num, rfl, by rw [HA.out.1]; exact HD.out⟩
              case measure => simp [intOf]; omega
        · have g2 : ¬ (i : Int) = 9 := by omega
          by_cases hy1 : y < 128
          · have HD := Lib.hid (onway_end HW.out HY.out HB.out hy1)
            have hy2 : y % 128 = y := by omega
            have NX := Lib.hid (fun v => num_done (v := v) H.out hlt (A2 := A2) (by rw [HD.out, HA.out.1, hy2]) (by rw [HA.out.1]; exact HA.out.2))
            clear hy2
            by_cases hcc : c = i + 1
            · have HCC := Lib.hid hcc
              go_wp2_with fail
              go_ret
              have X := NX.out _ (by rw [if_pos HCC.out])
              rw [HCC.out, Nat.sub_self] at X
              exact ⟨ret_int ((zag_word' (by rw [HA.out.1]; exact HA.out.2)).trans X.1.symm), X.2⟩
            · have HCC := Lib.hid hcc
              go_wp2_with fail
              go_ret
              have X := NX.out _ (by rw [if_neg HCC.out])
              exact ⟨ret_int ((zag_word' (by rw [HA.out.1]; exact HA.out.2)).trans X.1.symm), X.2⟩
          · have HD := Lib.hid (onway_next HW.out HY.out HB.out hy1)
            go_wp2_with fail
            go_round
            case rel => exact ⟨i + 1, A2, by omega, by go_num, rfl, by rw [HA.out.1]; exact HD.out⟩
            case measure => simp [intOf]; omega
    · have hd := Lib.hid (onway_short HW.out (by have := HN.out; omega))
      go_wp2_with (go_at_call 36; ((with_reducible refine F20.out.mono ?_); rintro en w1 ⟨rfl, t1⟩; have T1 := Lib.hid t1; clear t1))
      go_ret
      unfold num
      rw [hd.out]
      exact ⟨rfl, T1.out⟩
end Go.Proofs.Ytcdhpidglchinaa
