/- The contract of putHigh. -/
import Derived.Test.YteeapkbmlhlhjaaC
namespace Go.Proofs.Yteeapkbmlhlhjaa
open Go.RowKit

/-- Within the loop: q bytes of the row are full; the number is still that of all bits behind the first q0 bytes. -/
def PartH (w : World) (B P : Nat) (D : Option Nat) (M : List Bool) (V : Nat) (q : Nat) (wr : World) : Prop :=
  8 * q ≤ M.length ∧ ∃ D', Raw wr B P D' true (fulls true M q) (V : Nat) ((M.length - 8 * q : Nat) : Int) ∧ Keeps (fun k => k = P ∨ some k = D) w wr ∧ (D' = D ∨ ∃ k, D' = some k ∧ w.heap.size ≤ k)

theorem partH_used {w wr : World} {B P : Nat} {D : Option Nat} {M : List Bool} {V q : Nat} (h : PartH w B P D M V q wr) : usedOf P wr = M.length - 8 * q := by
  obtain ⟨h1, D', h2, h3⟩ := h
  obtain ⟨a, c, _, _, _, k3, _⟩ := h2.open
  rw [usedOf_eq k3, Int.toNat_natCast]

/-- The byte that is next. -/
theorem next_byte (M : List Bool) (q0 q t V : Nat) (hq : q0 ≤ q) (ht : M.length = 8 * q + 8 + t) (hV : val true (M.drop (8 * q0)) = V) : IntKind.u8.wrap ((V : Int) / 2 ^ t) = (byteAt true M q : Int) := by
  rw [byteAt_full _ _ _ (by omega), two_pow_cast, ← Int.natCast_ediv, wrap_u8_nat, high_take, List.length_drop, show M.length - 8 * q - 8 = t by omega]
  congr 1
  have e : M.drop (8 * q) = (M.drop (8 * q0)).drop (8 * q - 8 * q0) := by rw [List.drop_drop]; congr 1; omega
  rw [e, high_drop, hV, List.length_drop, show M.length - 8 * q0 - (8 * q - 8 * q0) = t + 8 by omega, Nat.pow_add, Nat.mod_mul_right_div_self]

theorem partH_step {w wr w2 : World} {B P : Nat} {D D1 D2 : Option Nat} {M : List Bool} {V q t : Nat} {b : Int} (hk : Keeps (fun k => k = P ∨ some k = D) w wr) (hD : D1 = D ∨ ∃ k, D1 = some k ∧ w.heap.size ≤ k) (hs : M.length = 8 * q + 8 + t) (hb : b = (byteAt true M q : Int))
    (r2 : Raw w2 B P D2 true (fulls true M q ++ [b]) V (t : Nat)) (b2 : Keeps (fun k => k = P ∨ some k = D1) wr w2) (d2 : D2 = D1 ∨ ∃ k, D2 = some k ∧ wr.heap.size ≤ k) :
    PartH w B P D M V (q + 1) w2 := by
  obtain ⟨h1, h2⟩ := Then.step hk hD b2 d2
  refine ⟨by omega, D2, ?_, h1, h2⟩
  rw [fulls_succ, ← hb, show M.length - 8 * (q + 1) = t by omega]
  exact r2

theorem partH_done {w wr : World} {B P : Nat} {D : Option Nat} {M : List Bool} {V q0 q s : Nat} (hq : q0 ≤ q) (hs : M.length = 8 * q + s) (hs8 : s < 8) (hV : val true (M.drop (8 * q0)) = V) (hVlt : V < 2147483648) (h : PartH w B P D M V q wr) :
    Then w B P D true M ((wr.setCell ⟨P, 2, none⟩ (.int .i64 (bits .and .i64 (V : Int) ((2 ^ s - 1 : Nat) : Int)))).drew) := by
  obtain ⟨h1, D', h2, h3, h4⟩ := h
  have e1 : q = M.length / 8 := by omega
  have e2 : val true (M.drop (8 * (M.length / 8))) = V % 2 ^ s := by
    rw [show M.drop (8 * (M.length / 8)) = (M.drop (8 * q0)).drop (8 * q - 8 * q0) by rw [List.drop_drop]; congr 1; omega, high_drop, hV, List.length_drop, show M.length - 8 * q0 - (8 * q - 8 * q0) = s by omega]
  rw [i64_mask V s (by omega) (by omega), ← e2]
  refine ⟨D', ?_, (h3.setCell (p := ⟨P, 2, none⟩) (fun _ => Or.inl rfl) _).drew, h4⟩
  have k := Raw.set_rest h2 ((val true (M.drop (8 * (M.length / 8))) : Nat) : Int)
  rw [show M.length - 8 * q = M.length % 8 by omega, e1] at k
  exact k.kept rfl (fun _ _ => rfl)

set_option maxHeartbeats 800000 in
theorem putHigh_any (w : World) (B P : Nat) (D : Option Nat) (L : List Bool) (h : Wr w B P D true L) (hB : B ≤ w.heap.size) (hl : L.length ≤ 16777216) (v n : Nat) (hn : n ≤ 24) (hv : v < 2 ^ n) :
    Calls Try.prog 22 #[.pointer (some ⟨P, 0, none⟩), .int .i64 v, .int .i64 n] w fun e w' => e = .returned (.tuple #[]) ∧ Then w B P D true (L ++ row true v n) w' := by
  have hu : L.length % 8 < 8 := Nat.mod_lt _ (by omega)
  have hr := val_lt true (L.drop (8 * (L.length / 8)))
  rw [List.length_drop, show L.length - 8 * (L.length / 8) = L.length % 8 by omega] at hr
  obtain ⟨a, c, h0, h1, h2, h3, hf, hown, hd⟩ := Raw.open h
  have f2 := hf 2
  have f3 := hf 3
  have hM : (L ++ row true v n).length = L.length + n := by rw [List.length_append, row_length]
  have hp : PartH w B P D (L ++ row true v n) (val true ((L ++ row true v n).drop (8 * (L.length / 8)))) (L.length / 8) ((w.setCell ⟨P, 2, none⟩ (.int .i64 ((val true ((L ++ row true v n).drop (8 * (L.length / 8))) : Nat) : Int))).setCell ⟨P, 3, none⟩ (.int .i64 (((L.length % 8 : Nat) : Int) + n))) := by
    refine ⟨by omega, D, ?_, (((Keeps.refl _ w).setCell (p := ⟨P, 2, none⟩) (fun _ => Or.inl rfl) _).setCell (p := ⟨P, 3, none⟩) (fun _ => Or.inl rfl) _), Or.inl rfl⟩
    have k := (Raw.set_rest h ((val true ((L ++ row true v n).drop (8 * (L.length / 8))) : Nat) : Int)).set_used (((L.length % 8 : Nat) : Int) + n)
    rw [fulls_more _ _ _ _ (by omega), hM, show ((L.length + n - 8 * (L.length / 8) : Nat) : Int) = ((L.length % 8 : Nat) : Int) + n by omega]
    exact k
  have hu2 : 2 ^ (L.length % 8) ≤ 2 ^ 7 := Nat.pow_le_pow_right (by omega) (by omega)
  have hn2 : 2 ^ n ≤ 2 ^ 24 := Nat.pow_le_pow_right (by omega) hn
  have hVlt : val true ((L ++ row true v n).drop (8 * (L.length / 8))) < 2147483648 := by
    have h1 := val_lt true ((L ++ row true v n).drop (8 * (L.length / 8)))
    rw [List.length_drop, hM] at h1
    have h2 : 2 ^ (L.length + n - 8 * (L.length / 8)) ≤ 2 ^ 31 := Nat.pow_le_pow_right (by omega) (by omega)
    omega
  have he : bits .or .i64 (wrap64 (((val true (L.drop (8 * (L.length / 8))) : Nat) : Int) * 2 ^ n)) v = ((val true ((L ++ row true v n).drop (8 * (L.length / 8))) : Nat) : Int) := by
    have hb : val true (L.drop (8 * (L.length / 8))) * 2 ^ n ≤ 2 ^ 7 * 2 ^ 24 := Nat.mul_le_mul (by omega) hn2
    rw [two_pow_cast, ← Int.natCast_mul, IntWalk.wrap64_in _ (by omega), i64_or_nat _ _ (by omega) (by omega), List.drop_append_of_le_length (by omega), high_append, val_row hv, row_length, nat_join n _ _ (Nat.mul_mod_left _ _) hv]
  generalize hV : val true ((L ++ row true v n).drop (8 * (L.length / 8))) = V at *
  generalize val true (L.drop (8 * (L.length / 8))) = r0 at *
  have hq08 : L.length = 8 * (L.length / 8) + L.length % 8 := by omega
  generalize L.length / 8 = q0 at *
  generalize L.length % 8 = u at *
  generalize L ++ row true v n = M at *
  have HP := Lib.hid hp
  have HE := Lib.hid he
  have ML := Lib.hid (show M.length ≤ 33554432 ∧ M.length ≤ 8 * q0 + 31 by omega)
  have HV := Lib.hid hV
  have HL := Lib.hid hVlt
  clear hown hd h hr hf h0 h1 hp he hM hv hV hu2 hn2 hVlt
  go_enter Try.func22, Try.ntmps22
  go_wp2
  rw [HE.out]
  go_loopw [] (fun wr => ∃ q, q0 ≤ q ∧ PartH w B P D M V q wr) (fun wr => usedOf P wr)
  case atStart => exact ⟨q0, Nat.le_refl _, HP.out⟩
  case round =>
    obtain ⟨q, hq0, hp⟩ := hrel
    have PT := Lib.hid hp
    obtain ⟨hq, D1, hraw, hk, hD⟩ := hp
    obtain ⟨a1, c1, k0, k1, k2, k3, kf, kown, kd⟩ := hraw.open
    have f1' := kf 1
    have f2' := kf 2
    have f3' := kf 3
    obtain ⟨s, hs⟩ : ∃ s : Nat, s = M.length - 8 * q := ⟨_, rfl⟩
    have hs25 : s ≤ 31 := by have := ML.out; omega
    have HV0 := Lib.hid kown
    have HD := Lib.hid kd
    have HR := Lib.hid hraw
    have HK := Lib.hid hk
    have HD1 := Lib.hid hD
    have HQ := Lib.hid hq
    rw [← hs] at k3
    have HS := Lib.hid hs
    rw [fulls_length] at k1
    clear kown kd hraw hk hD hq k0 hs kf
    by_cases hge : 8 ≤ s
    · obtain ⟨t, rfl⟩ : ∃ t, s = t + 8 := ⟨s - 8, by omega⟩
      go_wp2
      have hm1 := HR.out.set_used (t : Int)
      have hm2 : Keeps (fun k => k = P ∨ some k = D1) wr (wr.setCell ⟨P, 3, none⟩ (.int .i64 (t : Int))) := (Keeps.refl _ wr).setCell (p := ⟨P, 3, none⟩) (fun _ => Or.inl rfl) _
      obtain ⟨a2, c2, m0, m1, m2, m3, mf, mown, md⟩ := hm1.open
      rw [fulls_length] at m1
      have mf1 := mf 1
      generalize wr.setCell ⟨P, 3, none⟩ (.int .i64 (t : Int)) = wm at *
      have hPlt := hm1.lt
      have hBm : B ≤ wm.heap.size := by have := HK.out.size; have := hm2.size; omega
      have hq25 : q ≤ 33554432 := by have := HQ.out; have := ML.out; omega
      have hb : IntKind.u8.wrap ((V : Int) / 2 ^ t) = (byteAt true M q : Int) := next_byte M q0 q t V hq0 (by have := HS.out; have := HQ.out; omega) HV.out
      have LB := Lib.hid (show Below wm.heap.size wm ((wm.alloc (.cells #[.int .u8 (IntKind.u8.wrap ((V : Int) / 2 ^ t))] 5)).drew) from ((Below.refl _ _).alloc (Nat.le_refl _) _).drew)
      have HV1 := Lib.hid (show ((wm.alloc (.cells #[.int .u8 (IntKind.u8.wrap ((V : Int) / 2 ^ t))] 5)).drew).ownsRow B 5 1 (.slice a2 q c2) q ((fulls true M q).map (Value.int .u8)) by
        have k := mown
        have hd := md
        rw [fulls_length] at k hd
        exact own_kept k (fun k e => LB.out.block k (hm1.data_lt (hd.symm.trans e)).2))
      have P1 := Lib.hid (fun (aa : Option Addr) (cap : Nat) (w1 : World) (hown : w1.ownsRow B 5 1 (.slice aa (q + 1) cap) (q + 1) ((fulls true M q).map (Value.int .u8) ++ [.int .u8 (IntKind.u8.wrap ((V : Int) / 2 ^ t))])) (hg : ((wm.alloc (.cells #[.int .u8 (IntKind.u8.wrap ((V : Int) / 2 ^ t))] 5)).drew).grownBy w1 (Value.slice a2 q c2).ownBlock)
          (hat : (Value.slice aa (q + 1) cap).ownBlock = (Value.slice a2 q c2).ownBlock ∨ (Value.slice aa (q + 1) cap).ownBlock = some ((wm.alloc (.cells #[.int .u8 (IntKind.u8.wrap ((V : Int) / 2 ^ t))] 5)).drew).heap.size) =>
        hm1.pushed (b := IntKind.u8.wrap ((V : Int) / 2 ^ t)) (by rw [hb]; have := byteAt_lt true M q; omega) LB.out (v := .slice a2 q c2) (v' := .slice aa (q + 1) cap) (by have := md; rw [fulls_length] at this; exact this) (by rw [fulls_length]; exact hown) hg hat)
      have P2 := Lib.hid (fun (w1 : World) (hg : ((wm.alloc (.cells #[.int .u8 (IntKind.u8.wrap ((V : Int) / 2 ^ t))] 5)).drew).grownBy w1 (Value.slice a2 q c2).ownBlock) => show w1.cell? ⟨P, 1, none⟩ = some (.slice a2 q c2) ∧ w1.frozen? ⟨P, 1, none⟩ = false by
        have hP : w1.heap[P]? = wm.heap[P]? := (hg.block P (Nat.lt_of_lt_of_le hPlt LB.out.size) (by have := md; rw [fulls_length] at this; rw [this]; exact fun e => hm1.apart e.symm)).trans (LB.out.block P hPlt)
        exact ⟨(World.cell?_of_block (w := wm) hP).trans m1, (World.frozen?_of_block (w := wm) hP).trans mf1⟩)
      have HM2 := Lib.hid hm2
      have HB := Lib.hid hb
      clear hb hm1 hm2 m0 mf mown md k1 k2 k3 f1' f2' f3'
      go_region_law (refine step_append_byte (by rfl) (.tmp 41) (.tmp 52) (by rfl) B q (.slice a2 q c2) (fulls true M q) (by rfl) HV1.out ⟨wm.heap.size, 0, none⟩ 1 (IntKind.u8.wrap ((V : Int) / 2 ^ t)) (by rfl) (by simp) hq25 (by simp; omega) ?_; intro aa cap w1 hown1 hgrow1 hat1; have q1 := P2.out w1 hgrow1)
      all_goals
        obtain ⟨D2, r2, b2, d2⟩ := P1.out _ _ _ hown1 hgrow1 hat1
        have X := Lib.hid (partH_step HK.out HD1.out (by have := HS.out; have := HQ.out; omega) HB.out r2 (HM2.out.trans b2 (fun _ _ h => h)) (d2.imp id (fun ⟨k, e1, e2⟩ => ⟨k, e1, Nat.le_trans HM2.out.size e2⟩)))
        clear hown1 hgrow1 hat1 q1 r2 b2 d2
        generalize w1.setCell ⟨P, 1, none⟩ (.slice aa (q + 1) cap) = w2 at *
        go_wp2
        go_roundw
        case rel => exact ⟨q + 1, by omega, X.out⟩
        case measure =>
          rw [partH_used PT.out, partH_used X.out]
          have := HS.out
          omega
    · have hm : M.length - 8 * q < 8 := by have := HS.out; omega
      have CM := Lib.hid ((mask_any wr.drew s (by omega)).mono (fun e w' h => (⟨h.1, h.2.symm⟩ : e = .returned (.int .i64 ((2 ^ s - 1 : Nat) : Int)) ∧ w' = wr.drew)))
      have X := Lib.hid (partH_done (wr := wr) (s := s) hq0 (by have := HS.out; have := HQ.out; omega) (by omega) HV.out HL.out PT.out)
      go_wp2
      go_still_tail 9, (by kernel_rfl)
      still_call CM.out
      try refine wpStill_nil ?_
      change wpList _ _ _ _ _ wr.drew
      go_wp2
      go_end0
      exact ⟨rfl, X.out⟩
end Go.Proofs.Yteeapkbmlhlhjaa
