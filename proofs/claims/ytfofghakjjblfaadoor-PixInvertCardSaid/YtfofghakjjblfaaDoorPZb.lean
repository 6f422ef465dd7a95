/- PixMaps. -/
import Derived.Test.YtfofghakjjblfaaDoorPZ
namespace Go.Proofs.YtfofghakjjblfaaDoor
open Go.RowKit
set_option linter.unusedVariables false

set_option maxRecDepth 100000 in
theorem maps_long (kind : Int) (a : Option Addr) (n c : Nat) (zs : List Int) (p : Px.Pix) (w : World) (hW : Ways w) (h0 : 100 < n) : Calls Tryd.prog 7 #[.int .i64 kind, .slice a n c, .agg #[.int .i64 p.r, .int .i64 p.g, .int .i64 p.b, .int .i64 p.a]] w (Yes w) := by
  have F0 := Four.new w p.r p.g p.b p.a
  have K0 := (Keeps.refl none' w).alloc (.cells #[.int .i64 p.r, .int .i64 p.g, .int .i64 p.b, .int .i64 p.a] 26)
  obtain ⟨w1, hw1⟩ : ∃ w1, w1 = w.alloc (.cells #[.int .i64 p.r, .int .i64 p.g, .int .i64 p.b, .int .i64 p.a] 26) := ⟨_, rfl⟩
  obtain ⟨P, hP⟩ : ∃ P, P = w.heap.size := ⟨_, rfl⟩
  rw [← hw1] at F0 K0
  rw [← hP] at F0
  have A := Lib.hid (anchor_any w1 (hW.later K0))
  have HF := Lib.hid F0
  have HK := Lib.hid K0
  clear F0 K0 hW
  have t : decide ((100 : Int) < n) = true := by simp; omega
  go_enter Tryd.func7, Tryd.ntmps7
  go_wp2_with fail
  rw [← hw1, ← hP]
  clear hw1 hP
  refine A.out.mono ?_
  rintro e w2 ⟨rfl, hk⟩
  have HF2 := Lib.hid (HF.out.later hk)
  have HK2 := Lib.hid (HK.out.next hk)
  clear hk A
  go_wp2_with fail
  go_ret
  exact ⟨rfl, HK2.out⟩
set_option maxRecDepth 100000 in
theorem maps_bad (kind : Int) (a : Option Addr) (n c : Nat) (zs : List Int) (p : Px.Pix) (w : World) (hW : Ways w) (h0 : n ≤ 100) (hp : ¬ p.ok) : Calls Tryd.prog 7 #[.int .i64 kind, .slice a n c, .agg #[.int .i64 p.r, .int .i64 p.g, .int .i64 p.b, .int .i64 p.a]] w (Yes w) := by
  have F0 := Four.new w p.r p.g p.b p.a
  have K0 := (Keeps.refl none' w).alloc (.cells #[.int .i64 p.r, .int .i64 p.g, .int .i64 p.b, .int .i64 p.a] 26)
  obtain ⟨w1, hw1⟩ : ∃ w1, w1 = w.alloc (.cells #[.int .i64 p.r, .int .i64 p.g, .int .i64 p.b, .int .i64 p.a] 26) := ⟨_, rfl⟩
  obtain ⟨P, hP⟩ : ∃ P, P = w.heap.size := ⟨_, rfl⟩
  rw [← hw1] at F0 K0
  rw [← hP] at F0
  have A := Lib.hid (anchor_any w1 (hW.later K0))
  have HF := Lib.hid F0
  have HK := Lib.hid K0
  clear F0 K0 hW
  have t : decide ((100 : Int) < n) = false := by simp; omega
  have CP := Lib.hid (fun w => pixel_no' hp w)
  clear hp
  go_enter Tryd.func7, Tryd.ntmps7
  go_wp2_with fail
  rw [← hw1, ← hP]
  clear hw1 hP
  refine A.out.mono ?_
  rintro e w2 ⟨rfl, hk⟩
  have HF2 := Lib.hid (HF.out.later hk)
  have HK2 := Lib.hid (HK.out.next hk)
  clear hk A
  have c0 := HF2.out.c0
  have c1 := HF2.out.c1
  have c2 := HF2.out.c2
  have c3 := HF2.out.c3
  go_wp2_with fail
  refine (CP.out _).mono ?_
  rintro e w3 ⟨rfl, hk⟩
  have HK3 := Lib.hid (HK2.out.next hk)
  clear hk
  go_wp2_with fail
  go_ret
  exact ⟨rfl, HK3.out⟩
set_option maxRecDepth 100000 in
set_option maxHeartbeats 800000 in
theorem maps_no (kind : Int) (a : Option Addr) (n c : Nat) (zs : List Int) (p : Px.Pix) (w : World) (hW : Ways w) (h0 : n ≤ 100) (hp : p.ok) (hnc : n ≤ c) (h : Ints w a n zs) (hf : ¬ Px.Fits kind zs) : Calls Tryd.prog 7 #[.int .i64 kind, .slice a n c, .agg #[.int .i64 p.r, .int .i64 p.g, .int .i64 p.b, .int .i64 p.a]] w (Yes w) := by
  have F0 := Four.new w p.r p.g p.b p.a
  have K0 := (Keeps.refl none' w).alloc (.cells #[.int .i64 p.r, .int .i64 p.g, .int .i64 p.b, .int .i64 p.a] 26)
  obtain ⟨w1, hw1⟩ : ∃ w1, w1 = w.alloc (.cells #[.int .i64 p.r, .int .i64 p.g, .int .i64 p.b, .int .i64 p.a] 26) := ⟨_, rfl⟩
  obtain ⟨P, hP⟩ : ∃ P, P = w.heap.size := ⟨_, rfl⟩
  rw [← hw1] at F0 K0
  rw [← hP] at F0
  have A := Lib.hid (anchor_any w1 (hW.later K0))
  have HF := Lib.hid F0
  have HK := Lib.hid K0
  clear F0 K0 hW
  have t : decide ((100 : Int) < n) = false := by simp; omega
  have CP := Lib.hid (fun w => pixel_yes' hp w)
  have H := Lib.hid h
  have HN := Lib.hid hf
  clear hp h hf
  go_enter Tryd.func7, Tryd.ntmps7
  go_wp2_with fail
  rw [← hw1, ← hP]
  clear hw1 hP
  refine A.out.mono ?_
  rintro e w2 ⟨rfl, hk⟩
  have HF2 := Lib.hid (HF.out.later hk)
  have HK2 := Lib.hid (HK.out.next hk)
  clear hk A
  have c0 := HF2.out.c0
  have c1 := HF2.out.c1
  have c2 := HF2.out.c2
  have c3 := HF2.out.c3
  go_wp2_with fail
  refine (CP.out _).mono ?_
  rintro e w3 ⟨rfl, hk⟩
  have HK3 := Lib.hid (HK2.out.next hk)
  clear hk c0 c1 c2 c3
  have D := Lib.hid (docTable_no w3 a n c zs (by omega) hnc (H.out.later HK3.out) kind HN.out)
  go_wp2_with fail
  refine D.out.mono ?_
  rintro e w4 ⟨a', l', c', rfl, hk⟩
  have HK4 := Lib.hid (HK3.out.next hk)
  clear hk
  go_wp2_with fail
  go_ret
  exact ⟨rfl, HK4.out⟩
/-- A pixel, what came of it, the table. -/
structure Held (w : World) (P Q T : Nat) (p q : Px.Pix) (f : Int → Int) (wr : World) : Prop where
  one : Four wr P p.r p.g p.b p.a
  two : Four wr Q q.r q.g q.b q.a
  tbl : TblTo wr T 256 f
  keeps : Keeps none' w wr
theorem Held.drewN {w : World} {P Q T : Nat} {p q : Px.Pix} {f : Int → Int} {wr : World} (h : Held w P Q T p q f wr) (n : Nat) : Held w P Q T p q f (wr.drewN n) := ⟨h.one, h.two, h.tbl, h.keeps.drewN n⟩
set_option maxRecDepth 100000 in
set_option maxHeartbeats 1600000 in
theorem maps_yes (kind : Int) (a : Option Addr) (n c : Nat) (zs : List Int) (p : Px.Pix) (w : World) (hW : Ways w) (h0 : n ≤ 100) (hp : p.ok) (hnc : n ≤ c) (h : Ints w a n zs) (hf : Px.Fits kind zs) : Calls Tryd.prog 7 #[.int .i64 kind, .slice a n c, .agg #[.int .i64 p.r, .int .i64 p.g, .int .i64 p.b, .int .i64 p.a]] w (Yes w) := by
  have F0 := Four.new w p.r p.g p.b p.a
  have K0 := (Keeps.refl none' w).alloc (.cells #[.int .i64 p.r, .int .i64 p.g, .int .i64 p.b, .int .i64 p.a] 26)
  obtain ⟨w1, hw1⟩ : ∃ w1, w1 = w.alloc (.cells #[.int .i64 p.r, .int .i64 p.g, .int .i64 p.b, .int .i64 p.a] 26) := ⟨_, rfl⟩
  obtain ⟨P, hP⟩ : ∃ P, P = w.heap.size := ⟨_, rfl⟩
  rw [← hw1] at F0 K0
  rw [← hP] at F0
  have A := Lib.hid (anchor_any w1 (hW.later K0))
  have HF := Lib.hid F0
  have HK := Lib.hid K0
  clear F0 K0 hW
  have t : decide ((100 : Int) < n) = false := by simp; omega
  have CP := Lib.hid (fun w => pixel_yes' hp w)
  have H := Lib.hid h
  have HN := Lib.hid hf
  have hfb : ∀ v, Px.Byte v → Px.Byte (Px.repl kind zs v) := fun v hv => Px.repl_byte hf hv
  have CQ := Lib.hid (fun w => pixel_yes' (Px.mapped_ok hfb hp.bytes) w)
  have CM := Lib.hid (fun w T h => map_any w T _ h hfb p hp.bytes)
  have D0 := fun w => docBare_any hp.1 hp.2.2.2.1 w
  have D1 := fun w => docBare_any hp.2.1 hp.2.2.2.1 w
  have D2 := fun w => docBare_any hp.2.2.1 hp.2.2.2.1 w
  have b0 := Px.bare_byte hp.1 hp.2.2.2.1
  have b1 := Px.bare_byte hp.2.1 hp.2.2.2.1
  have b2 := Px.bare_byte hp.2.2.1 hp.2.2.2.1
  have M0 := fun w => docMul_any (hfb _ b0) hp.2.2.2.1 w
  have M1 := fun w => docMul_any (hfb _ b1) hp.2.2.2.1 w
  have M2 := fun w => docMul_any (hfb _ b2) hp.2.2.2.1 w
  obtain ⟨q, hq⟩ : ∃ q, q = Px.mapped (Px.repl kind zs) p := ⟨_, rfl⟩
  have q0 : Px.mul (Px.repl kind zs (Px.bare p.r p.a)) p.a = q.r := by rw [hq]; rfl
  have q1 : Px.mul (Px.repl kind zs (Px.bare p.g p.a)) p.a = q.g := by rw [hq]; rfl
  have q2 : Px.mul (Px.repl kind zs (Px.bare p.b p.a)) p.a = q.b := by rw [hq]; rfl
  have q3 : q.a = p.a := by rw [hq]; rfl
  rw [q0] at M0
  rw [q1] at M1
  rw [q2] at M2
  rw [← hq] at CM CQ
  obtain ⟨m0, hm0⟩ := Int.eq_ofNat_of_zero_le b0.1
  obtain ⟨m1, hm1⟩ := Int.eq_ofNat_of_zero_le b1.1
  obtain ⟨m2, hm2⟩ := Int.eq_ofNat_of_zero_le b2.1
  rw [hm0] at D0 M0 b0
  rw [hm1] at D1 M1 b1
  rw [hm2] at D2 M2 b2
  have l0 : m0 < 256 := by have := b0.2; omega
  have l1 : m1 < 256 := by have := b1.2; omega
  have l2 : m2 < 256 := by have := b2.2; omega
  have D0 := Lib.hid D0
  have D1 := Lib.hid D1
  have D2 := Lib.hid D2
  have M0 := Lib.hid M0
  have M1 := Lib.hid M1
  have M2 := Lib.hid M2
  have Q3 := Lib.hid q3
  clear hp h hf hfb b0 b1 b2 q0 q1 q2 q3 hm0 hm1 hm2 hq
  go_enter Tryd.func7, Tryd.ntmps7
  go_wp2_with fail
  rw [← hw1, ← hP]
  clear hw1 hP
  refine A.out.mono ?_
  rintro e w2 ⟨rfl, hk⟩
  have HF2 := Lib.hid (HF.out.later hk)
  have HK2 := Lib.hid (HK.out.next hk)
  clear hk A
  have c0 := HF2.out.c0
  have c1 := HF2.out.c1
  have c2 := HF2.out.c2
  have c3 := HF2.out.c3
  go_wp2_with fail
  refine (CP.out _).mono ?_
  rintro e w3 ⟨rfl, hk⟩
  have HF3 := Lib.hid (HF2.out.later hk)
  have HK3 := Lib.hid (HK2.out.next hk)
  clear hk c0 c1 c2 c3 HF2 HK2
  have D := Lib.hid (docTable_yes w3 a n c zs (by omega) hnc (H.out.later HK3.out) kind HN.out)
  go_wp2_with fail
  refine D.out.mono ?_
  rintro e w4 ⟨T, rfl, hT, hk, hlow⟩
  have HF4 := Lib.hid (HF3.out.later hk)
  have HK4 := Lib.hid (HK3.out.next hk)
  have HT := Lib.hid hT
  clear hk hT hlow HF3 HK3 D
  have c0 := HF4.out.c0
  have c1 := HF4.out.c1
  have c2 := HF4.out.c2
  have c3 := HF4.out.c3
  go_wp2_with fail
  refine (CM.out _ _ HT.out).mono ?_
  rintro e w5 ⟨rfl, hk⟩
  have L := Lib.hid (show Held w P w5.heap.size T p q (Px.repl kind zs) (w5.alloc (.cells #[.int .i64 q.r, .int .i64 q.g, .int .i64 q.b, .int .i64 q.a] 26)) from
    ⟨(HF4.out.later hk).alloc _, Four.new _ _ _ _ _, (HT.out.later hk).later ((Keeps.refl none' w5).alloc _), (HK4.out.next hk).alloc _⟩)
  clear hk c0 c1 c2 c3 HF4 HK4 HT CM
  go_wp2_with fail
  generalize w5.alloc (.cells #[.int .i64 q.r, .int .i64 q.g, .int .i64 q.b, .int .i64 q.a] 26) = w6 at *
  generalize w5.heap.size = Q at *
  generalize Px.repl kind zs = f at *
  go_loopw [10] (Cnt3 (Held w P Q T p q f) (Held w P Q T p q f) (Held w P Q T p q f) (Held w P Q T p q f)) (fun cnt _ => 3 - (intOf cnt).toNat)
  case atStart => exact .inl ⟨rfl, L.out⟩
  case round =>
    rcases hrel with ⟨rfl, hW⟩ | ⟨rfl, hW⟩ | ⟨rfl, hW⟩ | ⟨rfl, hW⟩
    · have p0 := hW.one.c0
      have p3 := hW.one.c3
      have q0 := hW.two.c0
      have e0 := hW.tbl.at l0
      have HW := Lib.hid hW
      have k0 : (m0 : Int) < 256 := by omega
      clear hW
      have M0 := Lib.hid M0.out
      generalize f (m0 : Int) = z at *
      go_wp2_with fail
      go_quiet (first | (go_at_call 17; refine Calls.quiet_of_same (D0.out _)) | (go_at_call 15; refine Calls.quiet_of_same (M0.out _)))
      go_wp2_with fail
      go_roundw
      case rel => exact .inr (.inl ⟨rfl, HW.out.drewN _⟩)
      case measure => decide
    · have p1 := hW.one.c1
      have p3 := hW.one.c3
      have q1 := hW.two.c1
      have e1 := hW.tbl.at l1
      have HW := Lib.hid hW
      have k0 : (m1 : Int) < 256 := by omega
      clear hW
      have M1 := Lib.hid M1.out
      generalize f (m1 : Int) = z at *
      go_wp2_with fail
      go_quiet (first | (go_at_call 17; refine Calls.quiet_of_same (D1.out _)) | (go_at_call 15; refine Calls.quiet_of_same (M1.out _)))
      go_wp2_with fail
      go_roundw
      case rel => exact .inr (.inr (.inl ⟨rfl, HW.out.drewN _⟩))
      case measure => decide
    · have p2 := hW.one.c2
      have p3 := hW.one.c3
      have q2 := hW.two.c2
      have e2 := hW.tbl.at l2
      have HW := Lib.hid hW
      have k0 : (m2 : Int) < 256 := by omega
      clear hW
      have M2 := Lib.hid M2.out
      generalize f (m2 : Int) = z at *
      go_wp2_with fail
      go_quiet (first | (go_at_call 17; refine Calls.quiet_of_same (D2.out _)) | (go_at_call 15; refine Calls.quiet_of_same (M2.out _)))
      go_wp2_with fail
      go_roundw
      case rel => exact .inr (.inr (.inr (⟨rfl, HW.out.drewN _⟩)))
      case measure => decide
    · have p3 := hW.one.c3
      have q0 := hW.two.c0
      have q1 := hW.two.c1
      have q2 := hW.two.c2
      have q3 := hW.two.c3
      have HW := Lib.hid hW
      clear hW
      rw [Q3.out] at q3
      have CQ := CQ.out
      rw [Q3.out] at CQ
      have CQ := Lib.hid CQ
      go_wp2_with fail
      refine (CQ.out _).mono ?_
      rintro e w' ⟨rfl, hk⟩
      have KK := Lib.hid (HW.out.keeps.next hk)
      clear hk
      go_wp2_with fail
      go_ret
      exact ⟨rfl, KK.out⟩
theorem maps_walk (kind : Int) (a : Option Addr) (n c : Nat) (zs : List Int) (p : Px.Pix) (w : World) (hW : Ways w) (h : n ≤ c ∧ Ints w a n zs) : Calls Tryd.prog 7 #[.int .i64 kind, .slice a n c, .agg #[.int .i64 p.r, .int .i64 p.g, .int .i64 p.b, .int .i64 p.a]] w (Yes w) := by
  by_cases h0 : 100 < n
  · exact maps_long kind a n c zs p w hW h0
  · by_cases hp : p.ok
    · by_cases hf : Px.Fits kind zs
      · exact maps_yes kind a n c zs p w hW (by omega) hp h.1 h.2 hf
      · exact maps_no kind a n c zs p w hW (by omega) hp h.1 h.2 hf
    · exact maps_bad kind a n c zs p w hW (by omega) hp
end Go.Proofs.YtfofghakjjblfaaDoor
