/- The contract of Get. -/
import Derived.Test.YteeapkbmlhlhjaaK
namespace Go.Proofs.Yteeapkbmlhlhjaa
open Go.RowKit

theorem got_high (ds : List Nat) (pos n f l s : Nat) (hn : n ≤ 24) (hf : f = pos / 8) (hl : l = (pos + n + 7) / 8) (hs : s = 8 * l - (pos + n)) (hle : l ≤ ds.length) :
    bits .and .i64 (((val true (rowOf true ((ds.drop f).take (l - f))) : Nat) : Int) / 2 ^ s) ((2 ^ n - 1 : Nat) : Int) = ((val true (((rowOf true ds).drop pos).take n) : Nat) : Int) := by
  have hT : (rowOf true ((ds.drop f).take (l - f))).length = 8 * (l - f) := by rw [rowOf_length]; simp; omega
  have hlt : val true (rowOf true ((ds.drop f).take (l - f))) < 2 ^ 32 := by
    have h1 := val_lt true (rowOf true ((ds.drop f).take (l - f)))
    have h2 : 2 ^ (rowOf true ((ds.drop f).take (l - f))).length ≤ 2 ^ 32 := Nat.pow_le_pow_right (by omega) (by omega)
    omega
  have hlt2 : val true (rowOf true ((ds.drop f).take (l - f))) / 2 ^ s ≤ val true (rowOf true ((ds.drop f).take (l - f))) := Nat.div_le_self _ _
  rw [two_pow_cast, ← Int.natCast_ediv, i64_mask _ _ (by omega) (by omega)]
  congr 1
  have e1 := high_take (rowOf true ((ds.drop f).take (l - f))) (8 * (l - f) - s)
  rw [hT, show 8 * (l - f) - (8 * (l - f) - s) = s by omega] at e1
  have e2 := high_drop ((rowOf true ((ds.drop f).take (l - f))).take (8 * (l - f) - s)) (8 * (l - f) - s - n)
  rw [List.length_take, hT, show min (8 * (l - f) - s) (8 * (l - f)) - (8 * (l - f) - s - n) = n by omega] at e2
  rw [← e1, ← e2, rowOf_take, rowOf_drop, List.take_take, List.drop_take, List.drop_drop]
  rw [show 8 * f + (8 * (l - f) - s - n) = pos by omega, show min (8 * (l - f) - s) (8 * (l - f)) - (8 * (l - f) - s - n) = n by omega]

theorem got_low (ds : List Nat) (pos n f l r : Nat) (hn : n ≤ 24) (hf : f = pos / 8) (hl : l = (pos + n + 7) / 8) (hr : r = pos % 8) (hle : l ≤ ds.length) :
    bits .and .i64 (((val false (rowOf false ((ds.drop f).take (l - f))) : Nat) : Int) / 2 ^ r) ((2 ^ n - 1 : Nat) : Int) = ((val false (((rowOf false ds).drop pos).take n) : Nat) : Int) := by
  have hT : (rowOf false ((ds.drop f).take (l - f))).length = 8 * (l - f) := by rw [rowOf_length]; simp; omega
  have hlt : val false (rowOf false ((ds.drop f).take (l - f))) < 2 ^ 32 := by
    have h1 := val_lt false (rowOf false ((ds.drop f).take (l - f)))
    have h2 : 2 ^ (rowOf false ((ds.drop f).take (l - f))).length ≤ 2 ^ 32 := Nat.pow_le_pow_right (by omega) (by omega)
    omega
  have hlt2 : val false (rowOf false ((ds.drop f).take (l - f))) / 2 ^ r ≤ val false (rowOf false ((ds.drop f).take (l - f))) := Nat.div_le_self _ _
  rw [two_pow_cast, ← Int.natCast_ediv, i64_mask _ _ (by omega) (by omega)]
  congr 1
  rw [← low_drop, ← low_take, rowOf_take, rowOf_drop, List.drop_take, List.drop_drop, List.take_take]
  rw [show 8 * f + r = pos by omega, show min n (8 * (l - f) - r) = n by omega]

theorem bytes_none (w : World) (a : Option Addr) : Bytes w a 0 [] := ⟨rfl, by simp, fun h => by omega⟩

/-- What Get leaves. -/
def Got (w : World) (B P D pos n : Nat) (high : Bool) (ds : List Nat) (e : Ending) (w' : World) : Prop :=
  e = .returned (.tuple #[.int .i64 (val high (((rowOf high ds).drop pos).take n) : Nat), .bool true]) ∧ Rd w' B P D high ds (pos + n) ∧ Keeps (fun k => k = P) w w'

theorem Got.of {w : World} {B P D pos n : Nat} {high : Bool} {ds : List Nat} (h : Rd w B P D high ds pos) (hl : pos + n ≤ 8 * ds.length) (q : Nat) {W : World} (hW : (w.drewN q).setCell ⟨P, 2, none⟩ (.int .i64 ((pos : Int) + n)) = W) :
    (∀ k m, Bytes W (some ⟨D, k, none⟩) ((ds.drop k).take m).length ((ds.drop k).take m)) ∧ W.cell? ⟨P, 0, none⟩ = some (.bool high) ∧ ∀ q2, Got w B P D pos n high ds (.returned (.tuple #[.int .i64 (val high (((rowOf high ds).drop pos).take n) : Nat), .bool true])) (W.drewN q2) := by
  have h1 : Rd (w.drewN q) B P D high ds pos := h.kept rfl rfl
  have h2 := h1.set (p' := pos + n) hl
  rw [show ((pos + n : Nat) : Int) = (pos : Int) + n by omega, hW] at h2
  refine ⟨fun k m => h2.bytes k m, (reader_cells h2.block).1, fun q2 => ⟨rfl, h2.kept rfl rfl, ?_⟩⟩
  rw [← hW]
  exact (((Keeps.refl (fun k => k = P) w).drewN q).setCell (p := ⟨P, 2, none⟩) (fun _ => rfl) _).drewN q2

set_option maxHeartbeats 800000 in
theorem get_high (w : World) (B P D pos : Nat) (ds : List Nat) (h : Rd w B P D true ds pos) (n : Nat) (hn : n ≤ 24) (hl : pos + n ≤ 8 * ds.length) (hp : pos < 8 * ds.length) :
    Calls Try.prog 18 #[.pointer (some ⟨P, 0, none⟩), .int .i64 n] w (Got w B P D pos n true ds) := by
  obtain ⟨h0, h1, h2⟩ := reader_cells h.block
  have f2 := block_free h.block 2
  have hlen := h.len
  obtain ⟨f, hf⟩ : ∃ f, f = pos / 8 := ⟨_, rfl⟩
  obtain ⟨l, hl'⟩ : ∃ l, l = (pos + n + 7) / 8 := ⟨_, rfl⟩
  obtain ⟨s, hs⟩ : ∃ s, s = 8 * l - (pos + n) := ⟨_, rfl⟩
  have ef : (pos : Int) / 8 = (f : Int) := by omega
  have el : ((pos : Int) + n + 7) / 8 = (l : Int) := by omega
  have es : 8 * (l : Int) - ((pos : Int) + n) = (s : Int) := by omega
  have hfl : f ≤ l := by omega
  have hlm : l ≤ ds.length := by omega
  have hs8 : s ≤ 8 := by omega
  have hlf : l - f ≤ 4 := by omega
  have t2 : decide (((8 * ds.length - pos : Nat) : Int) < (n : Int)) = false := by simp only [decide_eq_false_iff_not]; omega
  have C := Lib.hid (left_any w B P D pos true ds h)
  have G := Lib.hid (fun q W hW => Got.of (n := n) h hl q (W := W) hW)
  have HG := Lib.hid (got_high ds pos n f l s hn hf hl' hs hlm)
  have hne : ¬ ds.length = f := by omega
  have HT := Lib.hid (show ((ds.drop f).take (l - f)).length = l - f by simp; omega)
  clear h hf hl' hs
  generalize hz : ((8 * ds.length - pos : Nat) : Int) = z at *
  clear hz
  go_enter Try.func18, Try.ntmps18
  go_wp2_with fail
  refine C.out.mono ?_
  rintro e w' ⟨rfl, q, rfl⟩
  go_wp2_with fail
  go_quiet (fail)
  go_wp2_with fail
  generalize hW : (w.drewN (q + nq)).setCell ⟨P, 2, none⟩ (.int .i64 ((pos : Int) + n)) = W at *
  obtain ⟨hby, hc0, hgot⟩ := G.out _ _ hW
  have CH := Lib.hid (fun (q2 c : Nat) => highFirst_any (W.drewN q2) (some ⟨D, f, none⟩) (l - f) c ((ds.drop f).take (l - f)) (by have k := hby f (l - f); rw [HT.out] at k; exact k.later (fun _ _ => rfl)) hlf)
  have CM := Lib.hid (fun q2 : Nat => (mask_any (W.drewN q2) n (by omega)).mono (fun e w' h => (⟨h.1, h.2.symm⟩ : e = .returned (.int .i64 ((2 ^ n - 1 : Nat) : Int)) ∧ w' = W.drewN q2)))
  have HGOT := Lib.hid hgot
  generalize val true (rowOf true ((ds.drop f).take (l - f))) = V at *
  generalize 2 ^ n - 1 = mk at *
  clear hby hgot hW h0 h1 h2 f2
  go_quiet (first
    | (go_at_call 24; exact Calls.quiet_of_same (CH.out _ _))
    | (go_at_call 21; exact Calls.quiet_of_same (CM.out _)))
  go_wp2_with fail
  go_ret2
  have k := HGOT.out nq
  rw [← HG.out] at k
  exact k
set_option maxHeartbeats 800000 in
theorem get_low (w : World) (B P D pos : Nat) (ds : List Nat) (h : Rd w B P D false ds pos) (n : Nat) (hn : n ≤ 24) (hl : pos + n ≤ 8 * ds.length) (hp : pos < 8 * ds.length) :
    Calls Try.prog 18 #[.pointer (some ⟨P, 0, none⟩), .int .i64 n] w (Got w B P D pos n false ds) := by
  obtain ⟨h0, h1, h2⟩ := reader_cells h.block
  have f2 := block_free h.block 2
  have hlen := h.len
  obtain ⟨f, hf⟩ : ∃ f, f = pos / 8 := ⟨_, rfl⟩
  obtain ⟨l, hl'⟩ : ∃ l, l = (pos + n + 7) / 8 := ⟨_, rfl⟩
  obtain ⟨s, hs⟩ : ∃ s, s = pos % 8 := ⟨_, rfl⟩
  have ef : (pos : Int) / 8 = (f : Int) := by omega
  have el : ((pos : Int) + n + 7) / 8 = (l : Int) := by omega
  have es : (pos : Int) % 8 = (s : Int) := by omega
  have hfl : f ≤ l := by omega
  have hlm : l ≤ ds.length := by omega
  have hs8 : s ≤ 8 := by omega
  have hlf : l - f ≤ 4 := by omega
  have t2 : decide (((8 * ds.length - pos : Nat) : Int) < (n : Int)) = false := by simp only [decide_eq_false_iff_not]; omega
  have C := Lib.hid (left_any w B P D pos false ds h)
  have G := Lib.hid (fun q W hW => Got.of (n := n) h hl q (W := W) hW)
  have HG := Lib.hid (got_low ds pos n f l s hn hf hl' hs hlm)
  have hne : ¬ ds.length = f := by omega
  have HT := Lib.hid (show ((ds.drop f).take (l - f)).length = l - f by simp; omega)
  clear h hf hl' hs
  generalize hz : ((8 * ds.length - pos : Nat) : Int) = z at *
  clear hz
  go_enter Try.func18, Try.ntmps18
  go_wp2_with fail
  refine C.out.mono ?_
  rintro e w' ⟨rfl, q, rfl⟩
  go_wp2_with fail
  go_quiet (fail)
  go_wp2_with fail
  generalize hW : (w.drewN (q + nq)).setCell ⟨P, 2, none⟩ (.int .i64 ((pos : Int) + n)) = W at *
  obtain ⟨hby, hc0, hgot⟩ := G.out _ _ hW
  have CH := Lib.hid (fun (q2 c : Nat) => lowFirst_any (W.drewN q2) (some ⟨D, f, none⟩) (l - f) c ((ds.drop f).take (l - f)) (by have k := hby f (l - f); rw [HT.out] at k; exact k.later (fun _ _ => rfl)) hlf)
  have CM := Lib.hid (fun q2 : Nat => (mask_any (W.drewN q2) n (by omega)).mono (fun e w' h => (⟨h.1, h.2.symm⟩ : e = .returned (.int .i64 ((2 ^ n - 1 : Nat) : Int)) ∧ w' = W.drewN q2)))
  have HGOT := Lib.hid hgot
  generalize val false (rowOf false ((ds.drop f).take (l - f))) = V at *
  generalize 2 ^ n - 1 = mk at *
  clear hby hgot hW h0 h1 h2 f2
  go_quiet (first
    | (go_at_call 25; exact Calls.quiet_of_same (CH.out _ _))
    | (go_at_call 21; exact Calls.quiet_of_same (CM.out _)))
  go_wp2_with fail
  go_ret2
  have k := HGOT.out nq
  rw [← HG.out] at k
  exact k

set_option maxHeartbeats 800000 in
/-- Nothing is read at the end. -/
theorem get_end (w : World) (B P D : Nat) (high : Bool) (ds : List Nat) (h : Rd w B P D high ds (8 * ds.length)) :
    Calls Try.prog 18 #[.pointer (some ⟨P, 0, none⟩), .int .i64 0] w (Got w B P D (8 * ds.length) 0 high ds) := by
  obtain ⟨h0, h1, h2⟩ := reader_cells h.block
  have f2 := block_free h.block 2
  have hlen := h.len
  have C := Lib.hid (left_any w B P D (8 * ds.length) high ds h)
  have G := Lib.hid (fun (q : Nat) (W : World) (hW : (w.drewN q).setCell ⟨P, 2, none⟩ (.int .i64 (8 * (ds.length : Int))) = W) => Got.of (n := 0) h (Nat.le_refl _) q (W := W) (by rw [← hW]; simp))
  have CH := Lib.hid (fun (W : World) (q2 c : Nat) (a : Option Addr) => show Calls Try.prog 24 #[.slice a 0 c] (W.drewN q2) fun e w' => e = .returned (.int .i64 0) ∧ w' = W.drewN q2 from highFirst_any (W.drewN q2) a 0 c [] (bytes_none _ _) (by omega))
  have CL := Lib.hid (fun (W : World) (q2 c : Nat) (a : Option Addr) => show Calls Try.prog 25 #[.slice a 0 c] (W.drewN q2) fun e w' => e = .returned (.int .i64 0) ∧ w' = W.drewN q2 from lowFirst_any (W.drewN q2) a 0 c [] (bytes_none _ _) (by omega))
  have CM := Lib.hid (fun (W : World) (q2 : Nat) => show Calls Try.prog 21 #[.int .i64 0] (W.drewN q2) fun e w' => e = .returned (.int .i64 0) ∧ w' = W.drewN q2 from (mask_any (W.drewN q2) 0 (by omega)).mono (fun e w' h => ⟨h.1, h.2.symm⟩))
  have eb : bits .and .i64 0 0 = 0 := by decide
  rw [Nat.sub_self] at C
  clear h
  generalize ds.length = m at *
  push_cast at h2
  have e8 : (8 * (m : Int) + 7) / 8 = (m : Int) := by omega
  have e9 : (8 * m + 7) / 8 = m := by omega
  cases high
  · skip
    go_enter Try.func18, Try.ntmps18
    go_wp2_with fail
    refine C.out.mono ?_
    rintro e w' ⟨rfl, q, rfl⟩
    go_wp2_with fail
    go_quiet (fail)
    go_wp2_with fail
    generalize hW : (w.drewN (q + nq)).setCell ⟨P, 2, none⟩ (.int .i64 (8 * (m : Int))) = W at *
    obtain ⟨hby, hc0, hgot⟩ := G.out _ _ hW
    have HGOT := Lib.hid hgot
    have CM1 := Lib.hid (CM.out W)
    have CX1 := Lib.hid (CL.out W)
    clear hby hgot hW h0 h1 h2 f2
    go_quiet (first
      | (go_at_call 25; exact Calls.quiet_of_same (CX1.out _ _ _))
      | (go_at_call 21; exact Calls.quiet_of_same (CM1.out _)))
    go_wp2_with fail
    go_ret2
    have k := HGOT.out nq
    rw [List.take_zero] at k
    exact k
  · skip
    go_enter Try.func18, Try.ntmps18
    go_wp2_with fail
    refine C.out.mono ?_
    rintro e w' ⟨rfl, q, rfl⟩
    go_wp2_with fail
    go_quiet (fail)
    go_wp2_with fail
    generalize hW : (w.drewN (q + nq)).setCell ⟨P, 2, none⟩ (.int .i64 (8 * (m : Int))) = W at *
    obtain ⟨hby, hc0, hgot⟩ := G.out _ _ hW
    have HGOT := Lib.hid hgot
    have CM1 := Lib.hid (CM.out W)
    have CX1 := Lib.hid (CH.out W)
    clear hby hgot hW h0 h1 h2 f2
    go_quiet (first
      | (go_at_call 24; exact Calls.quiet_of_same (CX1.out _ _ _))
      | (go_at_call 21; exact Calls.quiet_of_same (CM1.out _)))
    go_wp2_with fail
    go_ret2
    have k := HGOT.out nq
    rw [List.take_zero] at k
    exact k

theorem get_yes (w : World) (B P D pos : Nat) (high : Bool) (ds : List Nat) (h : Rd w B P D high ds pos) (n : Nat) (hn : n ≤ 24) (hl : pos + n ≤ 8 * ds.length) :
    Calls Try.prog 18 #[.pointer (some ⟨P, 0, none⟩), .int .i64 n] w (Got w B P D pos n high ds) := by
  by_cases hp : pos < 8 * ds.length
  · cases high
    · exact get_low w B P D pos ds h n hn hl hp
    · exact get_high w B P D pos ds h n hn hl hp
  · have e1 : pos = 8 * ds.length := by have := h.pos_le; omega
    have e2 : n = 0 := by omega
    subst e1
    subst e2
    exact get_end w B P D high ds h
end Go.Proofs.Yteeapkbmlhlhjaa
