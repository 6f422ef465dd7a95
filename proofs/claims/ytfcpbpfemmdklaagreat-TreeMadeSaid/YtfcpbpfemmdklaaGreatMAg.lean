/- Texts of a layer, one behind the other. -/
import Derived.Test.YtfcpbpfemmdklaaGreatMAa
import Derived.BigQuiet
/- What a spot has within it, how high it is. -/
namespace Go.Proofs.YtfcpbpfemmdklaaGreat.Tr
open Go.RowKit Go.Lib
set_option linter.unusedSimpArgs false
set_option linter.unusedVariables false

/-- The spots within a spot. -/
def inner (X : Spt) : List Spt := sps X.l.dat.id X.b (X.o + 18) (X.dep + 1) X.l.kh.b X.l.kh.o 0 X.l.kids
set_option maxRecDepth 100000 in
set_option maxHeartbeats 1600000 in
theorem has51 (X : Spt) (id : Int) (w : World) (V : Vld w.heap.size w X) (hc : X.dep + 1 + cnt X.l.kids ≤ 1099511627776) :
    Calls Tryz.prog 78 #[.agg #[.int .i64 X.hid, .pointer (some ⟨X.kb, X.ko, none⟩), .int .i64 (X.dep : Int), .int .i64 (X.i : Int)], .int .i64 id] w fun e w' => e = .returned (.bool ((findP id (inner X)).isSome || (X.l.dat.id == id))) ∧ Keeps none' w w' := by
  have HV := Lib.hid V
  have HN := Lib.hid hc
  have S0 := Lib.hid (Sp.new w X.hid X.kb X.ko (X.dep : Int) (X.i : Int))
  have K0 := Lib.hid ((Keeps.refl none' w).alloc (.cells #[.int .i64 X.hid, .pointer (some ⟨X.kb, X.ko, none⟩), .int .i64 (X.dep : Int), .int .i64 (X.i : Int)] 86))
  obtain ⟨h', ls', off, hh', hl', ha', ho', hd'⟩ := V
  have LA := Lib.hid (fun w' (k : Keeps none' w w') => layer_any X.hid X.kb X.ko (X.dep : Int) h' ls' X.i X.l X.b off w' (hh'.home.later k) ha' hl')
  have HK := Lib.hid (show ∀ w', Keeps none' w w' → w'.cell? ⟨X.b, X.o, none⟩ = some (.int .i64 X.l.dat.id) from fun w' k => by
    obtain ⟨b', o', e, hc⟩ := (hh'.home.later k).lies (by have := (List.getElem?_eq_some_iff.1 hl').1; omega)
    rw [ha'] at e
    cases e
    rw [ho']
    exact hc X.i X.l hl' 0 _ (by cases X.l; rfl))
  have wi := (fun w' (k : Keeps none' w w') => within_any X.hid X.kb X.ko X.dep h' ls' X.i X.l X.b off w' (hh'.home.later k) ha' hl' hd')
  have hh2 := (fun w' (k : Keeps none' w w') => ((hh'.later k).kids ha' hl').home)
  obtain ⟨O8, hO8⟩ : ∃ O8, O8 = off + X.i * 19 + 18 := ⟨_, rfl⟩
  obtain ⟨D1, hD1⟩ : ∃ D1, D1 = X.dep + 1 := ⟨_, rfl⟩
  rw [← hO8, ← hD1] at wi
  rw [← hO8] at hh2
  have WI := Lib.hid wi
  have HH := Lib.hid hh2
  have EI := Lib.hid (show inner X = sps X.l.dat.id X.b O8 D1 X.l.kh.b X.l.kh.o 0 X.l.kids from by unfold inner; rw [hO8, hD1, ho'])
  have HN1 := Lib.hid (show D1 + cnt X.l.kids ≤ 1099511627776 from by rw [hD1]; exact hc)
  have HD1 := Lib.hid hD1
  clear wi hh2 hO8 hD1
  have HO := Lib.hid ho'
  clear hh' hl' ha' ho' hd' hc
  go_enter Tryz.func78, Tryz.ntmps78
  go_upto_region 1 with (fail)
  generalize w.alloc (.cells #[.int .i64 X.hid, .pointer (some ⟨X.kb, X.ko, none⟩), .int .i64 (X.dep : Int), .int .i64 (X.i : Int)] 86) = w1 at *
  obtain ⟨S, hS⟩ : ∃ S, S = w.heap.size := ⟨_, rfl⟩
  rw [← hS] at S0
  rw [← hS]
  clear hS
  have s0 := S0.out.c0
  have s1 := S0.out.c1
  have s2 := S0.out.c2
  have s3 := S0.out.c3
  cases hf : findP id (inner X) with
  | none =>
    have HF := Lib.hid hf
    clear hf
    go_upto_region 2 with (first
      | (refine (WI.out w1 K0.out).mono ?_; rintro e w2 ⟨rfl, hk2⟩; have K2 := Lib.hid (K0.out.next hk2); have K12 := Lib.hid hk2; clear hk2)
      | (refine (find_any X.l.dat.id X.b O8 D1 X.l.kh X.l.kids id w2 (HH.out w2 K2.out) HN1.out).mono ?_; rintro e w3 ⟨hf3, hk3⟩; have hf4 := found_eq hf3; rw [← EI.out, HF.out] at hf4; simp only [foundV] at hf4; subst hf4; have K3 := Lib.hid (K2.out.next hk3); have K13 := Lib.hid (K12.out.next hk3); clear hk3 hf3))
    have K4 := Lib.hid (K3.out.alloc (.cells #[.int .i64 0, .pointer none, .int .i64 0, .int .i64 0] 86))
    have S4 := Lib.hid (S0.out.later (K13.out.alloc (.cells #[.int .i64 0, .pointer none, .int .i64 0, .int .i64 0] 86)))
    generalize w3.alloc (.cells #[.int .i64 0, .pointer none, .int .i64 0, .int .i64 0] 86) = w4 at *
    clear s0 s1 s2 s3
    have s0 := S4.out.c0
    have s1 := S4.out.c1
    have s2 := S4.out.c2
    have s3 := S4.out.c3
    go_wp2_with (refine (LA.out w4 K4.out).mono ?_; rw [← HO.out]; rintro e w5 ⟨rfl, hk5⟩; have K5 := Lib.hid (K4.out.next hk5); have kd := HK.out w5 K5.out; clear hk5)
    go_ret
    exact ⟨by rw [HF.out]; simp, K5.out⟩
  | some Y =>
    have HF := Lib.hid hf
    clear hf
    go_upto_region 2 with (first
      | (refine (WI.out w1 K0.out).mono ?_; rintro e w2 ⟨rfl, hk2⟩; have K2 := Lib.hid (K0.out.next hk2); have K12 := Lib.hid hk2; clear hk2)
      | (refine (find_any X.l.dat.id X.b O8 D1 X.l.kh X.l.kids id w2 (HH.out w2 K2.out) HN1.out).mono ?_; rintro e w3 ⟨hf3, hk3⟩; have hf4 := found_eq hf3; rw [← EI.out, HF.out] at hf4; simp only [foundV] at hf4; subst hf4; have K3 := Lib.hid (K2.out.next hk3); have K13 := Lib.hid (K12.out.next hk3); clear hk3 hf3))
    have K4 := Lib.hid (K3.out.alloc (.cells #[.int .i64 Y.hid, .pointer (some ⟨Y.kb, Y.ko, none⟩), .int .i64 (Y.dep : Int), .int .i64 (Y.i : Int)] 86))
    generalize w3.alloc (.cells #[.int .i64 Y.hid, .pointer (some ⟨Y.kb, Y.ko, none⟩), .int .i64 (Y.dep : Int), .int .i64 (Y.i : Int)] 86) = w4 at *
    go_wp2_with fail
    go_ret
    exact ⟨by rw [HF.out]; simp, K4.out⟩
set_option maxRecDepth 100000 in
set_option maxHeartbeats 1600000 in
theorem height52 (X : Spt) (w : World) (V : Vld w.heap.size w X) (hc : X.dep + 1 + cnt X.l.kids ≤ 1099511627776) :
    Calls Tryz.prog 79 #[.agg #[.int .i64 X.hid, .pointer (some ⟨X.kb, X.ko, none⟩), .int .i64 (X.dep : Int), .int .i64 (X.i : Int)]] w fun e w' => e = .returned (.int .i64 ((deepS (X.dep + 1) (inner X) : Int) - (X.dep : Int))) ∧ Keeps none' w w' := by
  have HN := Lib.hid hc
  have S0 := Lib.hid (Sp.new w X.hid X.kb X.ko (X.dep : Int) (X.i : Int))
  have K0 := Lib.hid ((Keeps.refl none' w).alloc (.cells #[.int .i64 X.hid, .pointer (some ⟨X.kb, X.ko, none⟩), .int .i64 (X.dep : Int), .int .i64 (X.i : Int)] 86))
  obtain ⟨h', ls', off, hh', hl', ha', ho', hd'⟩ := V
  have wi := (fun w' (k : Keeps none' w w') => within_any X.hid X.kb X.ko X.dep h' ls' X.i X.l X.b off w' (hh'.home.later k) ha' hl' hd')
  have hh2 := (fun w' (k : Keeps none' w w') => ((hh'.later k).kids ha' hl').home)
  obtain ⟨O8, hO8⟩ : ∃ O8, O8 = off + X.i * 19 + 18 := ⟨_, rfl⟩
  obtain ⟨D1, hD1⟩ : ∃ D1, D1 = X.dep + 1 := ⟨_, rfl⟩
  rw [← hO8, ← hD1] at wi
  rw [← hO8] at hh2
  have WI := Lib.hid wi
  have HH := Lib.hid hh2
  have EI := Lib.hid (show inner X = sps X.l.dat.id X.b O8 D1 X.l.kh.b X.l.kh.o 0 X.l.kids from by unfold inner; rw [hO8, hD1, ho'])
  have HN1 := Lib.hid (show D1 + cnt X.l.kids ≤ 1099511627776 from by rw [hD1]; exact hc)
  have HD1 := Lib.hid hD1
  clear wi hh2 hO8 hD1
  have HO := Lib.hid ho'
  have HD := Lib.hid hd'
  clear hh' hl' ha' ho' hd' hc
  go_enter Tryz.func79, Tryz.ntmps79
  go_upto_region 1 with (fail)
  generalize w.alloc (.cells #[.int .i64 X.hid, .pointer (some ⟨X.kb, X.ko, none⟩), .int .i64 (X.dep : Int), .int .i64 (X.i : Int)] 86) = w1 at *
  obtain ⟨S, hS⟩ : ∃ S, S = w.heap.size := ⟨_, rfl⟩
  rw [← hS] at S0
  rw [← hS]
  clear hS
  have s0 := S0.out.c0
  have s1 := S0.out.c1
  have s2 := S0.out.c2
  have s3 := S0.out.c3
  have DL : ∀ a : Nat, deepS (X.dep + 1) (inner X) ≤ 2199023255552 := fun _ => by
    unfold deepS
    refine deepS_le (dep := X.dep + 1) (by have := HN.out; omega) (fun Y hY => ?_)
    have := sps_deep _ X.l.kids (Nat.le_refl _) _ _ _ _ _ _ _ Y hY
    have := HN.out
    omega
  obtain ⟨N, hN⟩ : ∃ N, N = deepS (X.dep + 1) (inner X) := ⟨_, rfl⟩
  have DN := Lib.hid (DL 0)
  rw [← hN] at DN
  have EN := Lib.hid hN
  have DE := Lib.hid (show deepS D1 (sps X.l.dat.id X.b O8 D1 X.l.kh.b X.l.kh.o 0 X.l.kids) = N from by rw [hN, EI.out, HD1.out])
  clear hN DL
  have b0 : (0 : Int) ≤ (X.dep : Int) := by omega
  have b1 : (X.dep : Int) ≤ 1099511627776 := by have := HD.out; omega
  have b2 : (0 : Int) ≤ (N : Int) := by omega
  have b3 : (N : Int) ≤ 2199023255552 := by have := DN.out; omega
  go_region_law (first
    | (go_simp; (with_reducible refine (WI.out w1.drew K0.out.drew).mono ?_); rintro e w2 ⟨rfl, hk2⟩; have K2 := Lib.hid (K0.out.drew.next hk2); have s2' := (S0.out.later ((Keeps.refl none' w1).drew.next hk2)).c2; clear hk2)
    | (go_simp; (with_reducible refine (deepest_any X.l.dat.id X.b O8 D1 X.l.kh X.l.kids w2 (HH.out w2 K2.out) HN1.out).mono ?_); rintro e w3 ⟨rfl, hk3⟩; rw [DE.out]; have K3 := Lib.hid (K2.out.next hk3); have s2'' := hk3.cell s2'; clear hk3))
  all_goals
    go_wp2_with fail
    go_ret
    refine ⟨?_, K3.out⟩
    show Ending.returned (.int .i64 (IntKind.i64.wrap ((N : Int) - (X.dep : Int)))) = _
    rw [wrap_i64 _ (by omega) (by omega), EN.out]
end Go.Proofs.YtfcpbpfemmdklaaGreat.Tr
