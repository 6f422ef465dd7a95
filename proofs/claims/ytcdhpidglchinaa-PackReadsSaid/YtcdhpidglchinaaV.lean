/- The document's Nums and List. -/
import Derived.Test.YtcdhpidglchinaaN
import Derived.Test.YtcdhpidglchinaaC
namespace Go.Proofs.Ytcdhpidglchinaa
open Go.RowKit Go.Lib Pk
set_option linter.unusedSimpArgs false
set_option linter.unusedVariables false

set_option maxHeartbeats 800000 in
theorem Nums_any (w : World) (g : Hd) (l : List Int) (hc : Cells 1 w g (ints l)) (hf : ∀ a ∈ l, Fit a) (hl : l.length ≤ 1000000) :
    Calls Try.prog 20 #[.slice g.a g.n g.c] w (ToldB w (l.flatMap put)) := by
  obtain ⟨i0, hi, hz0, hz1, hz2⟩ := info_parts info5
  have hn : l.length = g.n := by have := hc.len; rw [ints_length] at this; omega
  have HC := Lib.hid hc
  have HF := Lib.hid hf
  obtain ⟨a, n, c⟩ := g
  simp only at hn
  have hn2 : n ≤ 1000000 := by omega
  have HN := Lib.hid hn
  clear hc hf hl hn
  simp only
  go_enter Try.func20, Try.ntmps20
  go_wp2_with fail
  go_loopw [3, 4] (fun o v wr => ∃ (k : Nat) (hd : Hd), k ≤ n ∧ v = .int .i64 k ∧ o = .slice hd.a hd.n hd.c ∧ ((l.take k).flatMap put).length = hd.n ∧ wr.ownsRow w.heap.size 5 1 (.slice hd.a hd.n hd.c) hd.n (bys ((l.take k).flatMap put)) ∧ Keeps none' w wr) (fun _ v _ => n - (intOf v).toNat)
  case atStart => exact ⟨0, Hd.nil, Nat.zero_le _, rfl, rfl, rfl, ⟨rfl, .inl ⟨rfl, rfl⟩⟩, Keeps.refl _ _⟩
  case round =>
    obtain ⟨k, ⟨a1, m, c1⟩, hk, rfl, rfl, hm, ho, hK⟩ := hrel
    simp only at hm
    have HM := Lib.hid hm
    have HO := Lib.hid ho
    have HK := Lib.hid hK
    have hm2 : m ≤ 10000000 := by rw [← hm]; have := flat_take_short HF.out k (by have := HN.out; omega); omega
    clear hm ho hK
    simp only
    by_cases hlt : k < n
    · obtain ⟨x, hx⟩ : ∃ x, l[k]? = some x := ⟨_, List.getElem?_eq_getElem (by have := HN.out; omega)⟩
      obtain ⟨b, off, e, _, hcell⟩ := (HC.out.later HK.out).at (ints_at hx)
      simp only at e
      subst e
      have fx : Fit x := HF.out _ (at_mem hx)
      have HX := Lib.hid (And.intro hx fx)
      have C := Lib.hid (Num_any wr x fx)
      have ps := put_short fx
      have PS := Lib.hid ps
      clear hx fx ps
      go_wp2_with (first
        | (go_at_call 15; ((with_reducible refine C.out.mono ?_); rintro en w1 ⟨hd, rfl, hl1, o1, k1⟩; have O1 := Lib.hid (own_kept HO.out (fun q hq => k1.later q (own_lt HO.out q hq).2)); have Y1 := Lib.hid (own_cells2 o1 (bys_one _)).1; have L1 := Lib.hid hl1; have hd10 : hd.n ≤ 10 := (by rw [← hl1]; exact PS.out); have K1 := Lib.hid (HK.out.next k1); have sz1 := (HK.out.next k1).size; clear hl1 o1 k1))
        | (at_builtin; refine wpList_append_row rfl 29 5 _ _ rfl i0 _ 1 1 Try.underlying29 hi hz0 hz1 hz2 rfl (by decide) (by decide) w.heap.size m (.slice a1 m c1) _ rfl O1.out hd _ rfl Y1.out (by omega) (by omega) sz1 ?_; intro aa cap w2 ho hg hat; have K2 := Lib.hid (K1.out.grown hg (fun q hq e => by have := (own_lt HO.out q e).1; omega)); have O2 := Lib.hid ho; clear ho hg hat))
      go_roundw
      case rel =>
        refine ⟨k + 1, ⟨aa, m + hd.n, cap⟩, by omega, by go_num, rfl, ?_, ?_, K2.out⟩
        · rw [take_flat HX.out.1, List.length_append, HM.out, L1.out]
        · rw [take_flat HX.out.1, bys_append]
          exact O2.out
      case measure => simp [intOf]; omega
    · go_wp2_with fail
      go_ret
      have e : k = l.length := by have := HN.out; omega
      have h1 := HM.out
      have h2 := HO.out
      rw [e, List.take_length] at h1 h2
      exact ⟨⟨a1, m, c1⟩, rfl, h1, h2, HK.out⟩
set_option maxHeartbeats 800000 in
theorem List_any (w : World) (g : Hd) (l : List Int) (hc : Cells 1 w g (ints l)) (hf : ∀ a ∈ l, Fit a) (hl : l.length ≤ 1000000) :
    Calls Try.prog 21 #[.slice g.a g.n g.c] w (ToldB w (putL put l)) := by
  obtain ⟨i0, hi, hz0, hz1, hz2⟩ := info_parts info5
  have hn : l.length = g.n := by have := hc.len; rw [ints_length] at this; omega
  have fl : Fit (g.n : Int) := ⟨by omega, by omega⟩
  have C1 := Lib.hid (Num_any w (g.n : Int) fl)
  have C2 := Lib.hid (fun (w1 : World) (k : Keeps none' w w1) => Nums_any w1 g l (hc.later k) hf hl)
  have ps := Lib.hid (put_short fl)
  have pf := Lib.hid (flat_short hf)
  have hn2 : g.n ≤ 1000000 := by omega
  have HN := Lib.hid hn
  clear hc hf hl hn fl
  go_enter Try.func21, Try.ntmps21
  go_wp2_with (first
    | (go_at_call 15; ((with_reducible refine C1.out.mono ?_); rintro en w1 ⟨h1, rfl, hl1, o1, k1⟩; have O1 := Lib.hid o1; have L1 := Lib.hid hl1; have hd10 : h1.n ≤ 10 := (by rw [← hl1]; exact ps.out); have K1 := Lib.hid k1; clear hl1 o1 k1))
    | (go_at_call 20; ((with_reducible refine (C2.out _ K1.out).mono ?_); rintro en w2 ⟨h2, rfl, hl2, o2, k2⟩; have O2 := Lib.hid (own_kept O1.out (fun q hq => k2.later q (own_lt O1.out q hq).2)); have Y2 := Lib.hid (own_cells2 o2 (bys_one _)).1; have L2 := Lib.hid hl2; have hd2 : h2.n ≤ 10000000 := (by rw [← hl2]; have := pf.out; have := HN.out; omega); have K2 := Lib.hid (K1.out.next k2); have sz2 := (K1.out.next k2).size; clear hl2 o2 k2))
    | (at_builtin; refine wpList_append_row rfl 29 5 _ _ rfl i0 _ 1 1 Try.underlying29 hi hz0 hz1 hz2 rfl (by decide) (by decide) w.heap.size h1.n (.slice h1.a h1.n h1.c) _ rfl O2.out h2 _ rfl Y2.out (by omega) (by omega) sz2 ?_; intro aa cap w3 ho hg hat; have K3 := Lib.hid (K2.out.grown hg (fun q hq e => by have := (own_lt O1.out q e).1; omega)); have O3 := Lib.hid ho; clear ho hg hat))
  go_ret
  refine ⟨⟨aa, h1.n + h2.n, cap⟩, rfl, ?_, ?_, K3.out⟩
  · unfold putL
    rw [HN.out, List.length_append, L1.out, L2.out]
  · unfold putL
    rw [HN.out, bys_append]
    exact O3.out
end Go.Proofs.Ytcdhpidglchinaa
