/- What the law writes down bit by bit: the contract of its 'bitsOf'. -/
import Derived.Test.YteeapkbmlhlhjaaTurned
namespace Go.Proofs.Yteeapkbmlhlhjaa
open Go.RowKit

theorem info3 : (Try.prog.info? 3).map (fun i => (i.zero, i.size, i.bytes)) = some (some (.int .i64 0), 1, 8) := by kernel_rfl

/-- A bit as the law writes it. -/
def bitv (b : Bool) : Value := .int .i64 ((b.toNat : Nat) : Int)
def lenOf : Value → Nat
  | .slice _ n _ => n
  | _ => 0

theorem lowr_at (v n k : Nat) (h : k < n) : (lowr v n)[k]? = some (decide (v / 2 ^ k % 2 = 1)) := by
  induction n generalizing v k with
  | zero => omega
  | succ n ih =>
    cases k with
    | zero => simp [lowr]
    | succ k =>
      rw [lowr, List.getElem?_cons_succ, ih _ _ (by omega), Nat.div_div_eq_div_mul, Nat.pow_succ, Nat.mul_comm 2]
theorem row_bit (high : Bool) (v n k : Nat) (h : k < n) : (row high v n)[k]? = some (decide (v / 2 ^ (if high then n - 1 - k else k) % 2 = 1)) := by
  cases high
  · exact lowr_at v n k h
  · simp only [row, if_true]
    rw [List.getElem?_reverse (by rw [lowr_length]; exact h), lowr_length, lowr_at _ _ _ (by omega)]
theorem row_take (high : Bool) (v n k : Nat) (h : k < n) : (row high v n).take (k + 1) = (row high v n).take k ++ [decide (v / 2 ^ (if high then n - 1 - k else k) % 2 = 1)] := by
  rw [List.take_add_one, row_bit high v n k h]; rfl
theorem bit_nat (v s : Nat) : (decide (v / 2 ^ s % 2 = 1)).toNat = v / 2 ^ s % 2 := by
  rcases (show v / 2 ^ s % 2 = 0 ∨ v / 2 ^ s % 2 = 1 by omega) with h | h <;> simp [h]

/-- The list so far: memory of the call's own; and a block that it isn't. -/
def Out (w : World) (v : Value) (L : List Bool) (O : Nat) (ob : Obj) (W : World) : Prop :=
  (∃ aa c, v = .slice aa L.length c) ∧ W.ownsRow w.heap.size 3 1 v L.length (L.map bitv) ∧ Keeps (fun _ => False) w W ∧ W.heap[O]? = some ob ∧ v.ownBlock ≠ some O

theorem own3_kept {w w' : World} {B n : Nat} {v : Value} {xs : List Value} (h : w.ownsRow B 3 1 v n xs) (hk : ∀ k, v.ownBlock = some k → w'.heap[k]? = w.heap[k]?) : w'.ownsRow B 3 1 v n xs := by
  obtain ⟨h1, h2⟩ := h
  refine ⟨h1, ?_⟩
  rcases h2 with h2 | ⟨g, cap, cur, rfl, hg, hh, r⟩
  · exact Or.inl h2
  · exact Or.inr ⟨g, cap, cur, rfl, hg, (hk g rfl).trans hh, r⟩

theorem Out.below {w W W' : World} {v : Value} {L : List Bool} {O : Nat} {ob : Obj} (h : Out w v L O ob W) (hb : Below W.heap.size W W') : Out w v L O ob W' := by
  obtain ⟨h1, h2, h3, h4, h5⟩ := h
  exact ⟨h1, own3_kept h2 (fun k e => hb.block k (h2.lt k e).2), h3.own (below_keeps hb) (fun _ f => f.elim), (hb.block _ (lt_of_block h4)).trans h4, h5⟩

theorem wpList_append_bit {w W : World} {b : Bool} {ops : Array Oper} {rest : List Oper} {o : Oper} {a : Act} {Q : Exit → Act → World → Prop} (hgd : o.guard = none) (s x : Operand) (ho : o.op = .call { callee := .builtin .append, args := #[s, x], argTypes := #[31, 31] })
    (v : Value) (L : List Bool) (O : Nat) (ob : Obj) (hs : a.eval s = v) (hout : Out w v L O ob W) (hb : Below W.heap.size W (W.alloc (.cells #[bitv b] 3)))
    (hx : a.eval x = .slice (some ⟨W.heap.size, 0, none⟩) 1 1) (hL : L.length ≤ 16777216)
    (h : ∀ aa cap w', Out w (.slice aa (L.length + 1) cap) (L ++ [b]) O ob w' → wpList Try.prog ops Q rest (a.put o.dst (.slice aa (L.length + 1) cap)) w') :
    wpList Try.prog ops Q (o :: rest) a (W.alloc (.cells #[bitv b] 3)) := by
  obtain ⟨i0, hi, hz0, hz1, hz2⟩ := info_parts info3
  have h' := hout.below hb
  obtain ⟨h1, h2, h3, h4, h5⟩ := h'
  have hO := lt_of_block hout.2.2.2.1
  refine wpList_plain hgd fun K hK => ?_
  obtain ⟨v', w', hr, q1, q2, q4, q5⟩ := run_append_own_at (P := Try.prog) (W.alloc (.cells #[bitv b] 3)) w.heap.size 31 o.type 3 i0 (.int .i64 0) 1 8 Try.underlying31 hi hz0 hz1 hz2 rfl (by decide) v L.length _ h2 ⟨W.heap.size, 0, none⟩ 1 1 [bitv b] rfl
    (by
      intro j u hj
      cases j with
      | zero => simp only [List.getElem?_cons_zero, Option.some.injEq] at hj; subst hj; simp [Addr.add]
      | succ j => simp at hj)
    (by intro u hu; simp only [List.mem_singleton] at hu; subst hu; rfl) (by unfold maxLen; omega) (by omega) (by have := h3.size; exact this)
  have hv : ∃ aa cap, v' = .slice aa (L.length + 1) cap := by
    rcases q1.2 with ⟨e, e2⟩ | ⟨g, cap, _, e, _⟩
    · omega
    · exact ⟨_, _, e⟩
  obtain ⟨aa, cap, rfl⟩ := hv
  unfold Oper.wp execOp
  simp only [ho, resolve, invoke, builtin, Sem.run_bind, Sem.run_pure, Result.andThen_ok, List.map_toArray, List.map_cons, List.map_nil, hs, hx, hr]
  refine hK _ _ (h aa cap w' ⟨⟨aa, cap, by simp⟩, by simpa using q1, ?_, ?_, ?_⟩)
  · exact h3.grown q2 (fun k hk e => by have := (h2.lt k e).1; omega)
  · exact (q2.block O (by have := hb.size; omega) (fun e => h5 e.symm)).trans h4
  · rcases q5 with e | e
    · rw [e]; exact h5
    · rw [e]; simp; omega

set_option maxRecDepth 100000 in
set_option maxHeartbeats 1600000 in
theorem bitsOf_any (a : Option Addr) (len cap : Nat) (xs : List Num) (high : Bool) (w : World) (hlen : len ≤ 300) (hn : Nums w a len cap xs) :
    Calls Try.prog 13 #[.slice a len cap, .bool high] w fun e w' => ∃ aa c, e = .returned (.slice aa (wrote high xs len).length c) ∧ w'.ownsRow w.heap.size 3 1 (.slice aa (wrote high xs len).length c) (wrote high xs len).length ((wrote high xs len).map bitv) ∧ Below w.heap.size w w' := by
  have N0 := Lib.hid hn
  clear hn
  go_enter Try.func13, Try.ntmps13
  go_wp2
  go_loopw [5, 12] (fun ov cnt wr => ∃ i : Nat, i ≤ len ∧ cnt = .int .i64 i ∧ (∃ aa c, ov = .slice aa (wrote high xs i).length c) ∧ wr.ownsRow w.heap.size 3 1 ov (wrote high xs i).length ((wrote high xs i).map bitv) ∧ Keeps (fun _ => False) w wr) (fun _ cnt _ => len - (intOf cnt).toNat)
  case atStart => exact ⟨0, Nat.zero_le _, rfl, ⟨none, 0, rfl⟩, World.ownsRow_nil _ _ _ _, Keeps.refl _ _⟩
  case round =>
    obtain ⟨i, hi, rfl, ⟨aa, c, rfl⟩, hown, hk⟩ := hrel
    have hL : (wrote high xs i).length ≤ 8192 := by have := wrote_length high xs i; omega
    by_cases hlt : i < len
    · obtain ⟨x, hx⟩ : ∃ x, xs[i]? = some x := ⟨_, List.getElem?_eq_getElem (by rw [N0.out.2.2.1]; exact hlt)⟩
      obtain ⟨b, off, rfl, c0, c1, c2, cv, cn⟩ := (N0.out.later (fun k hk2 => hk.block k hk2 (fun h => h))).2.2.2 i x hx
      have HX := Lib.hid (wrote_succ (high := high) hx)
      have HA := Lib.hid (show Out w (.slice aa (wrote high xs i).length c) (wrote high xs i) wr.heap.size (.cells #[.int .i64 x.V, .int .i64 x.N, .bool x.F] 27 (0, 0)) (wr.alloc (.cells #[.int .i64 x.V, .int .i64 x.N, .bool x.F] 27)) from
        ⟨⟨aa, c, rfl⟩, own3_kept hown (fun k e => Below.heap_alloc _ _ _ (hown.lt k e).2), hk.alloc _, heap_alloc_new _ _, fun e => by have := (hown.lt _ e).2; omega⟩)
      clear hown hk hx
      generalize wrote high xs i = L at *
      cases hF : x.F
      · rw [hF] at c2 HA
        have CR := Lib.hid (right_below (wr.alloc (.cells #[.int .i64 x.V, .int .i64 x.N, .bool false] 27)) x.V x.N false)
        go_wp2_with fail
        refine CR.out.mono ?_
        rintro e w4 ⟨rfl, hb4⟩
        have H4 := Lib.hid (HA.out.below hb4)
        have p0 : w4.cell? ⟨wr.heap.size, 0, none⟩ = some (.int .i64 x.V) := by have hp := H4.out.2.2.2.1; simp [World.cell?, hp]
        have p1 : w4.cell? ⟨wr.heap.size, 1, none⟩ = some (.int .i64 x.N) := by have hp := H4.out.2.2.2.1; simp [World.cell?, hp]
        clear hb4
        cases hf : fits x.V x.N
        · go_wp2_with fail
          go_roundw
          case rel => exact ⟨i + 1, by omega, by go_num, by rw [HX.out, wrote1, hF, put, hf]; exact ⟨H4.out.1, H4.out.2.1, H4.out.2.2.1⟩⟩
          case measure => simp [intOf]; omega
        · have hnn : ∃ v n : Nat, x.V = (v : Int) ∧ x.N = (n : Int) ∧ n ≤ 24 ∧ v < 16777216 := by
            have := hf
            simp only [fits, decide_eq_true_eq] at this
            have hp : 2 ^ x.N.toNat ≤ 2 ^ 24 := Nat.pow_le_pow_right (by omega) (by omega)
            exact ⟨x.V.toNat, x.N.toNat, by omega, by omega, by omega, by omega⟩
          obtain ⟨v, n, hv, hn, hn24, hv24⟩ := hnn
          have hx1 := HX.out
          rw [wrote1, hF, put, hf] at hx1
          simp only [Bool.false_eq_true, if_false, if_true] at hx1
          rw [hv, hn, Int.toNat_natCast, Int.toNat_natCast] at hx1
          have HX1 := Lib.hid hx1
          rw [hv] at p0
          rw [hn] at p1
          have HV := Lib.hid hv
          have HN := Lib.hid hn
          clear hv hn hx1
          obtain ⟨wo, rfl⟩ : ∃ wo : World, wo = wr := ⟨_, rfl⟩
          go_wp2_with fail
          go_loopw [5, 8] (fun ov k wl => ∃ j : Nat, j ≤ n ∧ k = .int .i64 j ∧ Out w ov (L ++ (row high v n).take j) wo.heap.size (.cells #[.int .i64 x.V, .int .i64 x.N, .bool false] 27 (0, 0)) wl) (fun _ k _ => n - (intOf k).toNat)
          case atStart => exact ⟨0, Nat.zero_le _, rfl, by rw [List.take_zero, List.append_nil]; exact H4.out⟩
          case round =>
            obtain ⟨j, hj, rfl, ho⟩ := hrel
            have HO := Lib.hid ho
            obtain ⟨⟨aa', c', rfl⟩, _, _, hp, _⟩ := ho
            have r0 : wr.cell? ⟨wo.heap.size, 0, none⟩ = some (.int .i64 v) := by rw [← HV.out]; simp [World.cell?, hp]
            have r1 : wr.cell? ⟨wo.heap.size, 1, none⟩ = some (.int .i64 n) := by rw [← HN.out]; simp [World.cell?, hp]
            clear hp
            by_cases hjn : j < n
            · have HR := Lib.hid (row_take high v n j hjn)
              have hll : (L ++ (row high v n).take j).length ≤ 16777216 := by simp [row_length]; omega
              cases high
              · have hE := i64_bit v j (by omega)
                have hbn := bit_nat v j
                simp only [Bool.false_eq_true, if_false] at HR
                generalize hM : L ++ (row false v n).take j = M at *
                rw [← hbn] at hE
                clear hbn
                generalize decide (v / 2 ^ j % 2 = 1) = bb at *
                go_wp2_with (at_builtin; go_must (refine wpList_append_bit (b := bb) (W := wr) rfl (.tmp 45) (.tmp 51) rfl _ _ _ _ rfl HO.out ?c1 rfl ?c2 ?c3))
                case c1 => exact (Below.refl _ _).alloc (Nat.le_refl _) _
                case c2 => exact hll
                case c3 =>
                  intro aa2 cap2 w5 h5
                  have X := Lib.hid h5
                  clear h5
                  go_wp2_with fail
                  go_roundw
                  case rel => exact ⟨j + 1, by omega, by go_num, by rw [HR.out, ← List.append_assoc, hM]; exact X.out⟩
                  case measure => simp [intOf]; omega
              · obtain ⟨s, hs⟩ : ∃ s, s = n - 1 - j := ⟨_, rfl⟩
                have es : (n : Int) - 1 - (j : Int) = (s : Int) := by omega
                have hs24 : s ≤ 24 := by omega
                simp only [if_true] at HR
                rw [← hs] at HR
                have hE := i64_bit v s (by omega)
                have hbn := bit_nat v s
                generalize hM : L ++ (row true v n).take j = M at *
                rw [← hbn] at hE
                clear hbn hs
                generalize decide (v / 2 ^ s % 2 = 1) = bb at *
                go_wp2_with (at_builtin; go_must (refine wpList_append_bit (b := bb) (W := wr) rfl (.tmp 45) (.tmp 51) rfl _ _ _ _ rfl HO.out ?c1 rfl ?c2 ?c3))
                case c1 => exact (Below.refl _ _).alloc (Nat.le_refl _) _
                case c2 => exact hll
                case c3 =>
                  intro aa2 cap2 w5 h5
                  have X := Lib.hid h5
                  clear h5
                  go_wp2_with fail
                  go_roundw
                  case rel => exact ⟨j + 1, by omega, by go_num, by rw [HR.out, ← List.append_assoc, hM]; exact X.out⟩
                  case measure => simp [intOf]; omega
            · obtain rfl : j = n := by omega
              have X := Lib.hid HO.out
              rw [List.take_of_length_le (by rw [row_length]; exact Nat.le_refl _)] at X ⊢
              go_wp2_with fail
              go_roundw
              case rel => exact ⟨i + 1, by omega, by go_num, by rw [HX1.out]; exact ⟨⟨_, _, rfl⟩, X.out.2.1, X.out.2.2.1⟩⟩
              case measure => simp [intOf]; omega
      · rw [hF] at c2 HA
        have hb2 : x.V % 2 = 0 ∨ x.V % 2 = 1 := by omega
        obtain ⟨bb, hbb⟩ : ∃ bb : Bool, bb = decide (x.V % 2 = 1) := ⟨_, rfl⟩
        have hE : bits .and .i64 x.V 1 = ((bb.toNat : Nat) : Int) := by
          rw [i64_one x.V cv.1 cv.2, hbb]
          rcases hb2 with e | e <;> simp [e]
        have hx1 := HX.out
        rw [wrote1, hF, if_pos rfl, fill, ← hbb] at hx1
        have HX1 := Lib.hid hx1
        clear hx1 hbb hb2
        obtain ⟨wo, rfl⟩ : ∃ wo : World, wo = wr := ⟨_, rfl⟩
        go_wp2_with fail
        go_loopw [5] (fun ov wl => ∃ k : Nat, k ≤ (8 - L.length % 8) % 8 ∧ Out w ov (L ++ List.replicate k bb) wo.heap.size (.cells #[.int .i64 x.V, .int .i64 x.N, .bool true] 27 (0, 0)) wl) (fun ov _ => (8 - lenOf ov % 8) % 8)
        case atStart => exact ⟨0, Nat.zero_le _, by rw [List.replicate_zero, List.append_nil]; exact HA.out⟩
        case round =>
          obtain ⟨k, hk, ho⟩ := hrel
          have HO := Lib.hid ho
          obtain ⟨⟨aa', c', rfl⟩, _, _, hp, _⟩ := ho
          have r0 : wr.cell? ⟨wo.heap.size, 0, none⟩ = some (.int .i64 x.V) := by simp [World.cell?, hp]
          have HLK := Lib.hid (show (L ++ List.replicate k bb).length = L.length + k by simp)
          have HNX := Lib.hid (show L ++ List.replicate (k + 1) bb = (L ++ List.replicate k bb) ++ [bb] by rw [List.append_assoc, List.replicate_succ'])
          have hll : (L ++ List.replicate k bb).length ≤ 16777216 := by simp; omega
          have HKK := Lib.hid (show (L ++ List.replicate k bb).length % 8 = 0 → L ++ List.replicate ((8 - L.length % 8) % 8) bb = L ++ List.replicate k bb by
            intro h
            rw [HLK.out] at h
            rw [show (8 - L.length % 8) % 8 = k by omega])
          have HKL := Lib.hid hk
          clear hp
          generalize L ++ List.replicate k bb = M at *
          by_cases hm : M.length % 8 = 0
          · have X := Lib.hid HO.out
            go_wp2_with fail
            go_roundw
            case rel => exact ⟨i + 1, by omega, by go_num, by rw [HX1.out, HKK.out hm]; exact ⟨⟨_, _, rfl⟩, X.out.2.1, X.out.2.2.1⟩⟩
            case measure => simp [intOf]; omega
          · go_wp2_with (at_builtin; refine wpList_append_bit (b := bb) (W := wr) rfl (.tmp 23) (.tmp 27) rfl _ _ _ _ rfl HO.out ?c1 rfl ?c2 ?c3)
            case c1 => exact (Below.refl _ _).alloc (Nat.le_refl _) _
            case c2 => exact hll
            case c3 =>
              intro aa2 cap2 w5 h5
              have X := Lib.hid h5
              clear h5
              go_wp2_with fail
              go_roundw
              case rel => exact ⟨k + 1, by have := HLK.out; have := HKL.out; omega, by rw [HNX.out]; exact X.out⟩
              case measure => simp only [lenOf]; omega
    · obtain rfl : i = len := by omega
      have X := Lib.hid (And.intro hown (hk.below (Nat.le_refl _) (fun _ _ h => h)))
      clear hown hk
      go_wp2_with fail
      go_ret
      exact ⟨_, _, rfl, X.out⟩
end Go.Proofs.Yteeapkbmlhlhjaa
