/- Rows of whole numbers that a law makes: pixels, told and compared. -/
import Derived.Test.YtgonpaofickffaaTW
import Derived.Maps.AppendAt
import Derived.Laws.AppendOwnNone
import Derived.Deep.DeepMust
import Derived.OwnWalk
import Derived.Deep.OwnRows
namespace Go.Proofs.Ytgonpaofickffaa
open Go.RowKit Go.Maps
set_option linter.unusedVariables false

/-- Numbers that a slice value leads to. -/
def Ints (w : World) (a : Option Addr) (n : Nat) (zs : List Int) : Prop :=
  zs.length = n ∧ (∀ z ∈ zs, -9223372036854775808 ≤ z ∧ z ≤ 9223372036854775807) ∧ (0 < n → ∃ b off, a = some ⟨b, off, none⟩ ∧ ∀ (j : Nat) (z : Int), zs[j]? = some z → w.cell? ⟨b, off + j, none⟩ = some (.int .i64 z))
theorem Ints.keep {w w' : World} {a : Option Addr} {n : Nat} {zs : List Int} (h : Ints w a n zs) {X : Nat → Prop} (k : Keeps X w w') (hX : ∀ b off, a = some ⟨b, off, none⟩ → ¬ X b) : Ints w' a n zs := by
  obtain ⟨h1, h2, h3⟩ := h
  refine ⟨h1, h2, fun hp => ?_⟩
  obtain ⟨b, off, e, hc⟩ := h3 hp
  exact ⟨b, off, e, fun j y hj => (World.cell?_of_block (w := w) (k.block _ (World.block_lt_of_cell? w _ (hc j y hj)) (hX b off e))).trans (hc j y hj)⟩
theorem Ints.later {w w' : World} {a : Option Addr} {n : Nat} {zs : List Int} (h : Ints w a n zs) (k : Keeps none' w w') : Ints w' a n zs := h.keep k (fun _ _ _ h => h)
theorem Ints.at {w : World} {a : Option Addr} {n i : Nat} {zs : List Int} (h : Ints w a n zs) (hi : i < n) : ∃ b off z, a = some ⟨b, off, none⟩ ∧ zs[i]? = some z ∧ (-9223372036854775808 ≤ z ∧ z ≤ 9223372036854775807) ∧ w.cell? ⟨b, off + i, none⟩ = some (.int .i64 z) := by
  obtain ⟨h1, h2, h3⟩ := h
  obtain ⟨b, off, e, hc⟩ := h3 (by omega)
  have hl : i < zs.length := by omega
  exact ⟨b, off, zs[i], e, List.getElem?_eq_getElem hl, h2 _ (List.getElem_mem hl), hc i _ (List.getElem?_eq_getElem hl)⟩
theorem info3 : (Try.prog.info? 3).map (fun i => (i.zero, i.size, i.bytes)) = some (some (.int .i64 0), 1, 8) := by kernel_rfl
def vals (xs : List Int) : List Value := xs.map (Value.int .i64)
theorem vals_length (xs : List Int) : (vals xs).length = xs.length := by simp [vals]
theorem add_spot (b off j : Nat) : ((⟨b, off, none⟩ : Addr).add j) = ⟨b, off + j, none⟩ := by
  unfold Addr.add
  split
  · rename_i h; subst h; rfl
  · rfl
theorem own_kept {w w' : World} {B n : Nat} {v : Value} {xs : List Value} (h : w.ownsRow B 3 1 v n xs) (hk : ∀ k, v.ownBlock = some k → w'.heap[k]? = w.heap[k]?) : w'.ownsRow B 3 1 v n xs := by
  obtain ⟨h1, h2⟩ := h
  refine ⟨h1, ?_⟩
  rcases h2 with h2 | ⟨g, cap, cur, rfl, hg, hh, r⟩
  · exact Or.inl h2
  · exact Or.inr ⟨g, cap, cur, rfl, hg, (hk g rfl).trans hh, r⟩

/-- append of whole numbers to a row of the call's own, as one step. -/
theorem run_append_ints (w : World) (ty : TypeId) (base n : Nat) (v : Value) (xs : List Int) (hown : w.ownsRow base 3 1 v n (vals xs)) (ad : Option Addr) (m c : Nat) (ds : List Int) (hb : Ints w ad m ds) (hc : ad = none → m = 0 ∧ c = 0) (hn : n ≤ 33554432) (hm : m ≤ 33554432) (hbase : base ≤ w.heap.size) :
    ∃ aa cap w', (Builtin.append_ #[34, 34] ty #[v, .slice ad m c]).run Try.prog w = .ok (.slice aa (n + m) cap) w' ∧
      w'.ownsRow base 3 1 (.slice aa (n + m) cap) (n + m) (vals (xs ++ ds)) ∧ w.grownBy w' v.ownBlock ∧ ((Value.slice aa (n + m) cap).ownBlock = v.ownBlock ∨ (Value.slice aa (n + m) cap).ownBlock = some w.heap.size) := by
  obtain ⟨i0, hi, hz0, hz1, hz2⟩ := info_parts info3
  obtain ⟨hl, hby, hcell⟩ := hb
  cases ad with
  | none =>
    obtain ⟨rfl, rfl⟩ := hc rfl
    obtain rfl : ds = [] := List.eq_nil_of_length_eq_zero hl
    have hr := run_append_owned_none (P := Try.prog) (w := w) base 34 ty 3 i0 1 Try.underlying34 hi _ _ _ hown
    have hv : ∃ aa cap, v = .slice aa n cap := by
      rcases hown.2 with ⟨e, e2⟩ | ⟨g, cap, _, e, _⟩
      · exact ⟨none, 0, by rw [e, e2]⟩
      · exact ⟨_, _, e⟩
    obtain ⟨aa, cap, rfl⟩ := hv
    refine ⟨aa, cap, w, hr, ?_, ⟨rfl, rfl, rfl, Nat.le_refl _, fun _ _ _ => rfl⟩, Or.inl rfl⟩
    rw [List.append_nil]
    exact hown
  | some ad =>
    obtain ⟨v', w', hr, h1, h2, h4, h5⟩ := run_append_own_at (P := Try.prog) w base 34 ty 3 i0 (.int .i64 0) 1 8 Try.underlying34 hi hz0 hz1 hz2 rfl (by decide) _ n _ hown ad m c (vals ds) (by rw [vals_length]; omega)
      (by
        intro j u hj
        unfold vals at hj
        rw [List.getElem?_map] at hj
        have hjl : j < ds.length := by
          rcases Nat.lt_or_ge j ds.length with h | h
          · exact h
          · rw [List.getElem?_eq_none h] at hj; cases hj
        obtain ⟨b, off, e, hcl⟩ := hcell (by omega)
        cases e
        rw [List.getElem?_eq_getElem hjl] at hj
        rw [add_spot, hcl j _ (List.getElem?_eq_getElem hjl)]
        simpa using hj)
      (by intro u hu; unfold vals at hu; simp only [List.mem_map] at hu; obtain ⟨y, _, rfl⟩ := hu; rfl) (by unfold maxLen; omega) (by omega) hbase
    have hv : ∃ aa cap, v' = .slice aa (n + m) cap := by
      rcases h1.2 with ⟨e, e2⟩ | ⟨g, cap, _, e, _⟩
      · exact ⟨none, 0, by rw [e, e2]⟩
      · exact ⟨_, _, e⟩
    obtain ⟨aa, cap, rfl⟩ := hv
    have e : vals xs ++ vals ds = vals (xs ++ ds) := by simp [vals]
    rw [e] at h1
    exact ⟨aa, cap, w', hr, h1, h2, h5⟩

theorem wpList_append_ints {w : World} {ops : Array Oper} {rest : List Oper} {o : Oper} {a : Act} {Q : Exit → Act → World → Prop} (hgd : o.guard = none) (s x : Operand) (ho : o.op = .call { callee := .builtin .append, args := #[s, x], argTypes := #[34, 34] })
    (base n : Nat) (v : Value) (xs : List Int) (hs : a.eval s = v) (hown : w.ownsRow base 3 1 v n (vals xs))
    (ad : Option Addr) (m c : Nat) (ds : List Int) (hx : a.eval x = .slice ad m c) (hb : Ints w ad m ds) (hc : ad = none → m = 0 ∧ c = 0) (hn : n ≤ 33554432) (hm : m ≤ 33554432) (hbase : base ≤ w.heap.size)
    (h : ∀ aa cap w', w'.ownsRow base 3 1 (.slice aa (n + m) cap) (n + m) (vals (xs ++ ds)) → w.grownBy w' v.ownBlock → ((Value.slice aa (n + m) cap).ownBlock = v.ownBlock ∨ (Value.slice aa (n + m) cap).ownBlock = some w.heap.size) → wpList Try.prog ops Q rest (a.put o.dst (.slice aa (n + m) cap)) w') :
    wpList Try.prog ops Q (o :: rest) a w := by
  refine wpList_plain hgd fun K hK => ?_
  obtain ⟨aa, cap, w', hr, h1, h2, h3⟩ := run_append_ints w o.type base n v xs hown ad m c ds hb hc hn hm hbase
  unfold Oper.wp execOp
  simp only [ho, resolve, invoke, builtin, Sem.run_bind, Sem.run_pure, Result.andThen_ok, List.map_toArray, List.map_cons, List.map_nil, hs, hx, hr]
  exact hK _ _ (h aa cap w' h1 h2 h3)
theorem own_lt {w : World} {B n : Nat} {v : Value} {xs : List Value} (h : w.ownsRow B 3 1 v n xs) : ∀ k, v.ownBlock = some k → B ≤ k ∧ k < w.heap.size := by
  intro k hk
  rcases h.2 with ⟨rfl, _⟩ | ⟨g, cap, cur, rfl, hb, hg, _⟩
  · cases hk
  · cases hk
    refine ⟨hb, ?_⟩
    rcases Nat.lt_or_ge g w.heap.size with hlt | hge
    · exact hlt
    · rw [Array.getElem?_eq_none hge] at hg; cases hg
theorem one_ints (w : World) (z : Int) (h : -9223372036854775808 ≤ z ∧ z ≤ 9223372036854775807) : Ints (w.alloc (.cells #[.int .i64 z] 3)) (some ⟨w.heap.size, 0, none⟩) 1 [z] := by
  refine ⟨rfl, fun x hx => by simp at hx; omega, fun _ => ⟨_, 0, rfl, fun j x hj => ?_⟩⟩
  rw [World.cell?_alloc_mark, Nat.zero_add]
  match j, hj with
  | 0, hj => cases hj; rfl
  | j + 1, hj => simp at hj

theorem own_ints {w : World} {B n c : Nat} {aa : Option Addr} {xs : List Int} (h : w.ownsRow B 3 1 (.slice aa n c) n (vals xs)) (hb : ∀ z ∈ xs, -9223372036854775808 ≤ z ∧ z ≤ 9223372036854775807) : Ints w aa n xs ∧ ∀ b off, aa = some ⟨b, off, none⟩ → B ≤ b := by
  have hown := h
  obtain ⟨hl, h2⟩ := h
  rw [vals_length, Nat.mul_one] at hl
  rcases h2 with ⟨e1, e2⟩ | ⟨g, cap, cur, e, hB, hh, p1, p2, p3, p4⟩
  · cases e1
    exact ⟨⟨hl, hb, fun hp => by omega⟩, fun b off e => by cases e⟩
  · cases e
    refine ⟨⟨hl, hb, fun hp => ⟨g, 0, rfl, fun j z hj => ?_⟩⟩, fun b off e => by cases e; exact hB⟩
    rw [Nat.zero_add, cell_of_row _ _ _ _ _ _ hh]
    have hjl : j < xs.length := by
      rcases Nat.lt_or_ge j xs.length with h | h
      · exact h
      · rw [List.getElem?_eq_none h] at hj; cases hj
    have : (vals xs)[j]? = (cur.toList.take (n * 1))[j]? := by rw [p4]
    rw [List.getElem?_take_of_lt (by omega)] at this
    rw [← Array.getElem?_toList, ← this]
    simp [vals, hj]
/-- All pixels of a plane of forty by forty. -/
def pixTo (S : St) (p : Pl) (n : Nat) : List Int := (List.range n).map (fun i => (px S p (i % 40) (i / 40) : Int))
theorem pixTo_succ (S : St) (p : Pl) (n : Nat) : pixTo S p (n + 1) = pixTo S p n ++ [(px S p (n % 40) (n / 40) : Int)] := by
  unfold pixTo; rw [List.range_succ, List.map_append]; rfl
theorem pixTo_bounds {w : World} {S : St} (h : Rep w S) {k : Nat} {p : Pl} (hk : S.ps[k]? = some p) (n : Nat) : ∀ z ∈ pixTo S p n, -9223372036854775808 ≤ z ∧ z ≤ 9223372036854775807 := by
  intro z hz
  unfold pixTo at hz
  obtain ⟨i, -, rfl⟩ := List.mem_map.1 hz
  have := h.px_le hk (i % 40) (i / 40)
  omega
/-- What the telling of pixels leaves. -/
def Told40 (w : World) (zs : List Int) (e : Ending) (w' : World) : Prop := ∃ aa cap, e = .returned (.slice aa 1600 cap) ∧ Ints w' aa 1600 zs ∧ Keeps none' w w' ∧ ∀ b off, aa = some ⟨b, off, none⟩ → w.heap.size ≤ b
set_option maxHeartbeats 3200000 in
set_option maxRecDepth 100000 in
theorem pixels_any (w : World) (S : St) (h : Rep w S) (k : Nat) (p : Pl) (hk : S.ps[k]? = some p) (hW : p.W = 40) (hH : p.H = 40) :
    Calls Try.prog 19 #[.pointer (some ⟨p.pb, 0, none⟩)] w (Told40 w (pixTo S p 1600)) := by
  have H := Lib.hid h
  have HK := Lib.hid hk
  have HW := Lib.hid (And.intro hW hH)
  clear h hk hW hH
  go_enter Try.func19, Try.ntmps19
  go_wp2_with fail
  go_loopw [3, 5] (fun out cnt wr => ∃ (i : Nat) (aa : Option Addr) (cap : Nat), i ≤ 1600 ∧ cnt = .int .i64 i ∧ out = .slice aa i cap ∧ wr.ownsRow w.heap.size 3 1 (.slice aa i cap) i (vals (pixTo S p i)) ∧ Keeps none' w wr) (fun _ cnt _ => 1600 - (intOf cnt).toNat)
  case atStart => exact ⟨0, none, 0, by omega, rfl, rfl, ⟨rfl, .inl ⟨rfl, rfl⟩⟩, Keeps.refl _ _⟩
  case round =>
    obtain ⟨i, aa, cap, hi, rfl, rfl, hown, hkp⟩ := hrel
    have HO := Lib.hid hown
    have HP := Lib.hid hkp
    clear hown hkp
    by_cases hlt : i < 1600
    · have C := at_in wr S (H.out.later HP.out) k p HK.out (i % 40) (i / 40) (by rw [HW.out.1]; omega) (by rw [HW.out.2]; omega)
      have hb := (H.out).px_le HK.out (i % 40) (i / 40)
      have hs := pixTo_succ S p i
      have e1 : (i : Int) % 40 = ((i % 40 : Nat) : Int) := by omega
      have e2 : (i : Int) / 40 = ((i / 40 : Nat) : Int) := by omega
      generalize px S p (i % 40) (i / 40) = z at *
      generalize i % 40 = x at *
      generalize i / 40 = y at *
      have C := Lib.hid C
      have HS := Lib.hid hs
      have HZ := Lib.hid hb
      clear hs hb
      go_wp2_with fail
      refine C.out.mono ?_
      rintro e w2 ⟨rfl, hk2⟩
      have HO2 := Lib.hid (own_kept (w' := w2.alloc (.cells #[.int .i64 (z : Int)] 3)) HO.out (fun q hq => (Below.heap_alloc _ _ _ (Nat.lt_of_lt_of_le (own_lt HO.out q hq).2 hk2.size)).trans (hk2.later q (own_lt HO.out q hq).2)))
      have HP2 := Lib.hid ((HP.out.trans hk2 (fun _ _ h => h)).alloc (.cells #[.int .i64 (z : Int)] 3))
      have hsz : w.heap.size ≤ w2.heap.size := (HP.out.trans hk2 (fun _ _ h => h)).size
      have hpush : (w2.alloc (.cells #[.int .i64 (z : Int)] 3)).heap.size = w2.heap.size + 1 := Array.size_push _
      clear hk2 e1 e2
      go_wp2_with (at_builtin; go_must (refine wpList_append_ints rfl (.tmp 8) (.tmp 15) rfl w.heap.size i (.slice aa i cap) (pixTo S p i) rfl ?e1 (some ⟨w2.heap.size, 0, none⟩) 1 1 [(z : Int)] rfl ?e2 (by intro e; cases e) (by omega) (by omega) ?e3 ?e4))
      case e1 => exact HO2.out
      case e2 => exact one_ints w2 z (by have := HZ.out; omega)
      case e3 => rw [hpush]; omega
      case e4 =>
        intro aa2 cap2 w3 hown hg hat
        have hk3 : Keeps none' w w3 := HP2.out.grown hg (fun q hq e => by have := (own_lt HO2.out q e).1; omega)
        rw [← HS.out] at hown
        have Y := Lib.hid (And.intro hown hk3)
        clear hown hk3 hg hat
        go_wp2_with fail
        go_roundw
        case rel => exact ⟨i + 1, aa2, cap2, by omega, by go_num, rfl, Y.out.1, Y.out.2⟩
        case measure => simp [intOf]; omega
    · obtain rfl : i = 1600 := by omega
      have Y := Lib.hid (own_ints HO.out (pixTo_bounds H.out HK.out _))
      go_wp2_with fail
      go_ret
      exact ⟨aa, cap, rfl, Y.out.1, HP.out, Y.out.2⟩
theorem same_any (w : World) (a a' : Option Addr) (c c' : Nat) (zs : List Int) (h : Ints w a 1600 zs) (h' : Ints w a' 1600 zs) : Calls Try.prog 20 #[.slice a 1600 c, .slice a' 1600 c'] w fun e w' => e = .returned (.bool true) ∧ w' = w := by
  have H := Lib.hid h
  have H' := Lib.hid h'
  clear h h'
  go_enter Try.func20, Try.ntmps20
  go_wp2_with fail
  go_loopw [14] (fun cnt wr => ∃ k : Nat, k ≤ 1600 ∧ cnt = .int .i64 k ∧ wr = w) (fun cnt _ => 1600 - (intOf cnt).toNat)
  case atStart => exact ⟨0, by omega, rfl, rfl⟩
  case round =>
    obtain ⟨k, hk, rfl, rfl⟩ := hrel
    by_cases hlt : k < 1600
    · have hki : (k : Int) < 1600 := by omega
      obtain ⟨b, off, z, rfl, e1, hz, hc⟩ := H.out.at hlt
      obtain ⟨b', off', z', rfl, e2, hz', hc'⟩ := H'.out.at hlt
      obtain rfl : z = z' := Option.some.inj (e1.symm.trans e2)
      clear e1 e2
      go_wp2_with fail
      go_roundw
      case rel => exact ⟨k + 1, by omega, by go_num, trivial⟩
      case measure => simp [intOf]; omega
    · obtain rfl : k = 1600 := by omega
      go_wp2_with fail
      go_ret
      exact ⟨rfl, rfl⟩
end Go.Proofs.Ytgonpaofickffaa
