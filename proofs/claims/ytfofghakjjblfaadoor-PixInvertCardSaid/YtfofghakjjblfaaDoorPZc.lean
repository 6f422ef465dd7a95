/- PixInvert. -/
import Derived.Test.YtfofghakjjblfaaDoorPZb
namespace Go.Proofs.YtfofghakjjblfaaDoor
open Go.RowKit
set_option linter.unusedVariables false

theorem ints_none (w : World) : Ints w none 0 [] := ⟨rfl, (fun z hz => by simp at hz), fun h => absurd h (by omega)⟩
theorem ints_one (w : World) (t : Int) (h : Px.Byte t) : Ints (w.alloc (.cells #[.int .i64 t] 3)) (some ⟨w.heap.size, 0, none⟩) 1 [t] := by
  refine ⟨rfl, fun z hz => ?_, fun _ => ⟨_, _, rfl, fun j z hj => ?_⟩⟩
  · obtain rfl := List.mem_singleton.1 hz
    unfold Px.Byte at h
    omega
  · cases j with
    | zero =>
      simp only [List.getElem?_cons_zero, Option.some.injEq] at hj
      subst hj
      rw [cell_of_row _ _ _ _ _ _ (heap_alloc_new _ _)]
      rfl
    | succ j => simp at hj
theorem fits_inv : Px.Fits 2 [] := ⟨(fun z hz => by simp at hz), .inr (.inr (.inl ⟨rfl, rfl⟩))⟩
theorem fits_thr (t : Int) (h : Px.Byte t) : Px.Fits 3 [t] := ⟨(fun z hz => by obtain rfl := List.mem_singleton.1 hz; exact h), .inr (.inr (.inr ⟨rfl, rfl⟩))⟩
namespace Px
def inv (p : Pix) : Pix := ⟨255 - p.r, 255 - p.g, 255 - p.b, 255⟩
theorem mapped_full (f : Int → Int) (r g b : Int) (hr : Byte r) (hg : Byte g) (hb : Byte b) : mapped f ⟨r, g, b, 255⟩ = ⟨f r, f g, f b, 255⟩ := by
  unfold mapped mult
  simp only [bare_full hr, bare_full hg, bare_full hb, mul_full]
theorem sub_byte' {a : Int} (h : Byte a) : Byte (255 - a) := by unfold Byte at *; omega
theorem inv_one (r g b : Int) (hr : Byte r) (hg : Byte g) (hb : Byte b) : mapped (repl 2 []) ⟨r, g, b, 255⟩ = ⟨255 - r, 255 - g, 255 - b, 255⟩ := mapped_full _ r g b hr hg hb
theorem inv_two (r g b : Int) (hr : Byte r) (hg : Byte g) (hb : Byte b) : mapped (repl 2 []) ⟨255 - r, 255 - g, 255 - b, 255⟩ = ⟨r, g, b, 255⟩ := by
  rw [inv_one _ _ _ (sub_byte' hr) (sub_byte' hg) (sub_byte' hb)]
  simp only [Int.sub_sub_self]
def cutAt (t v : Int) : Int := if v < t then 0 else 255
theorem thr_one (t r g b : Int) (hr : Byte r) (hg : Byte g) (hb : Byte b) : mapped (repl 3 [t]) ⟨r, g, b, 255⟩ = ⟨cutAt t r, cutAt t g, cutAt t b, 255⟩ := mapped_full _ r g b hr hg hb
end Px
set_option maxRecDepth 100000 in
set_option maxHeartbeats 800000 in
theorem invert_bad1 (p : Px.Pix) (t : Int) (w : World) (hW : Ways w) (hp : ¬ Px.Pix.ok ⟨p.r, p.g, p.b, 255⟩) : Calls Tryd.prog 11 #[.agg #[.int .i64 p.r, .int .i64 p.g, .int .i64 p.b, .int .i64 p.a], .int .i64 t] w (Yes w) := by
  obtain ⟨r, g, b, a⟩ := p
  simp only at *
  have F0 := Four.new w r g b a
  have K0 := (Keeps.refl none' w).alloc (.cells #[.int .i64 r, .int .i64 g, .int .i64 b, .int .i64 a] 26)
  obtain ⟨w1, hw1⟩ : ∃ w1, w1 = w.alloc (.cells #[.int .i64 r, .int .i64 g, .int .i64 b, .int .i64 a] 26) := ⟨_, rfl⟩
  obtain ⟨P, hP⟩ : ∃ P, P = w.heap.size := ⟨_, rfl⟩
  rw [← hw1] at F0 K0
  rw [← hP] at F0
  have A := Lib.hid (anchor_any w1 (hW.later K0))
  have HF := Lib.hid F0
  have HK := Lib.hid K0
  have LOW := Lib.hid (show w.heap.size ≤ P by omega)
  clear F0 K0 hW
  have CP := fun w => pixel_no' hp w
  simp only at CP
  have CP := Lib.hid CP
  clear hp
  go_enter Tryd.func11, Tryd.ntmps11
  go_wp2_with fail
  rw [← hw1, ← hP]
  clear hw1 hP
  refine A.out.mono ?_
  rintro e w2 ⟨rfl, hk⟩
  have HF2 := Lib.hid (HF.out.later hk)
  have HK2 := Lib.hid (HK.out.next hk)
  clear hk A HF HK
  have c0 := HF2.out.c0
  have c1 := HF2.out.c1
  have c2 := HF2.out.c2
  have c3 := HF2.out.c3
  have f3 := HF2.out.fr (i := 3)
  have X1 := Lib.hid (HF2.out.s3 255)
  have X2 := Lib.hid (HK2.out.setCell (p := ⟨P, 3, none⟩) (fun e => by have := LOW.out; simp only at e; omega) (.int .i64 255))
  go_wp2_with fail
  generalize w2.setCell ⟨P, 3, none⟩ (.int .i64 255) = w3 at *
  refine (CP.out _).mono ?_
  rintro e w4 ⟨rfl, hk⟩
  have HF4 := Lib.hid (X1.out.later hk)
  have HK4 := Lib.hid (X2.out.next hk)
  clear hk c0 c1 c2 c3 f3 X1 X2 HF2 HK2
  go_wp2_with fail
  go_ret
  exact ⟨rfl, HK4.out⟩
set_option maxRecDepth 100000 in
set_option maxHeartbeats 800000 in
theorem invert_bad2 (p : Px.Pix) (t : Int) (w : World) (hW : Ways w) (hp : Px.Pix.ok ⟨p.r, p.g, p.b, 255⟩) (ht : ¬ Px.Byte t) : Calls Tryd.prog 11 #[.agg #[.int .i64 p.r, .int .i64 p.g, .int .i64 p.b, .int .i64 p.a], .int .i64 t] w (Yes w) := by
  obtain ⟨r, g, b, a⟩ := p
  simp only at *
  have F0 := Four.new w r g b a
  have K0 := (Keeps.refl none' w).alloc (.cells #[.int .i64 r, .int .i64 g, .int .i64 b, .int .i64 a] 26)
  obtain ⟨w1, hw1⟩ : ∃ w1, w1 = w.alloc (.cells #[.int .i64 r, .int .i64 g, .int .i64 b, .int .i64 a] 26) := ⟨_, rfl⟩
  obtain ⟨P, hP⟩ : ∃ P, P = w.heap.size := ⟨_, rfl⟩
  rw [← hw1] at F0 K0
  rw [← hP] at F0
  have A := Lib.hid (anchor_any w1 (hW.later K0))
  have HF := Lib.hid F0
  have HK := Lib.hid K0
  have LOW := Lib.hid (show w.heap.size ≤ P by omega)
  clear F0 K0 hW
  have CP := fun w => pixel_yes' hp w
  simp only at CP
  have CP := Lib.hid CP
  have CT := Lib.hid (fun w => byteful_no ht w)
  clear hp ht
  go_enter Tryd.func11, Tryd.ntmps11
  go_wp2_with fail
  rw [← hw1, ← hP]
  clear hw1 hP
  refine A.out.mono ?_
  rintro e w2 ⟨rfl, hk⟩
  have HF2 := Lib.hid (HF.out.later hk)
  have HK2 := Lib.hid (HK.out.next hk)
  clear hk A HF HK
  have c0 := HF2.out.c0
  have c1 := HF2.out.c1
  have c2 := HF2.out.c2
  have c3 := HF2.out.c3
  have f3 := HF2.out.fr (i := 3)
  have X1 := Lib.hid (HF2.out.s3 255)
  have X2 := Lib.hid (HK2.out.setCell (p := ⟨P, 3, none⟩) (fun e => by have := LOW.out; simp only at e; omega) (.int .i64 255))
  go_wp2_with fail
  generalize w2.setCell ⟨P, 3, none⟩ (.int .i64 255) = w3 at *
  refine (CP.out _).mono ?_
  rintro e w4 ⟨rfl, hk⟩
  have HF4 := Lib.hid (X1.out.later hk)
  have HK4 := Lib.hid (X2.out.next hk)
  clear hk c0 c1 c2 c3 f3 X1 X2 HF2 HK2
  go_wp2_with fail
  refine (CT.out _).mono ?_
  rintro e w5 ⟨rfl, rfl⟩
  go_wp2_with fail
  go_ret
  exact ⟨rfl, HK4.out⟩
set_option maxRecDepth 100000 in
set_option maxHeartbeats 1600000 in
theorem invert_good (p : Px.Pix) (t : Int) (w : World) (hW : Ways w) (hp : Px.Pix.ok ⟨p.r, p.g, p.b, 255⟩) (ht : Px.Byte t) : Calls Tryd.prog 11 #[.agg #[.int .i64 p.r, .int .i64 p.g, .int .i64 p.b, .int .i64 p.a], .int .i64 t] w (Yes w) := by
  obtain ⟨r, g, b, a⟩ := p
  simp only at *
  have F0 := Four.new w r g b a
  have K0 := (Keeps.refl none' w).alloc (.cells #[.int .i64 r, .int .i64 g, .int .i64 b, .int .i64 a] 26)
  obtain ⟨w1, hw1⟩ : ∃ w1, w1 = w.alloc (.cells #[.int .i64 r, .int .i64 g, .int .i64 b, .int .i64 a] 26) := ⟨_, rfl⟩
  obtain ⟨P, hP⟩ : ∃ P, P = w.heap.size := ⟨_, rfl⟩
  rw [← hw1] at F0 K0
  rw [← hP] at F0
  have A := Lib.hid (anchor_any w1 (hW.later K0))
  have HF := Lib.hid F0
  have HK := Lib.hid K0
  have LOW := Lib.hid (show w.heap.size ≤ P by omega)
  clear F0 K0 hW
  have CP := fun w => pixel_yes' hp w
  simp only at CP
  have CP := Lib.hid CP
  have CT := Lib.hid (fun w => byteful_yes ht w)
  have hr : Px.Byte r := hp.1
  have hg : Px.Byte g := hp.2.1
  have hb : Px.Byte b := hp.2.2.1
  have h255 : Px.Byte 255 := by decide
  have T1 := Lib.hid (fun w => table_yes w none 0 0 [] (by omega) (by omega) (ints_none w) 2 fits_inv)
  have T2 := Lib.hid (fun w => table_yes (w.alloc (.cells #[.int .i64 t] 3)) (some ⟨w.heap.size, 0, none⟩) 1 1 [t] (by omega) (by omega) (ints_one w t ht) 3 (fits_thr t ht))
  have MA := fun w T h => map_any w T (Px.repl 3 [t]) h (fun v hv => Px.repl_byte (fits_thr t ht) hv) ⟨r, g, b, 255⟩ ⟨hr, hg, hb, h255⟩
  have MB := fun w T h => map_any w T (Px.repl 2 []) h (fun v hv => Px.repl_byte fits_inv hv) ⟨r, g, b, 255⟩ ⟨hr, hg, hb, h255⟩
  have MC := fun w T h => map_any w T (Px.repl 2 []) h (fun v hv => Px.repl_byte fits_inv hv) ⟨255 - r, 255 - g, 255 - b, 255⟩ ⟨Px.sub_byte' hr, Px.sub_byte' hg, Px.sub_byte' hb, h255⟩
  rw [Px.thr_one t r g b hr hg hb] at MA
  rw [Px.inv_one r g b hr hg hb] at MB
  rw [Px.inv_two r g b hr hg hb] at MC
  simp only at MA MB MC
  have MA := Lib.hid MA
  have MB := Lib.hid MB
  have MC := Lib.hid MC
  have EQ := fun w => eq26_self r g b 255 w
  clear hp ht h255 hr hg hb
  go_enter Tryd.func11, Tryd.ntmps11
  go_wp2_with fail
  rw [← hw1, ← hP]
  clear hw1 hP
  refine A.out.mono ?_
  rintro e w2 ⟨rfl, hk⟩
  have HF2 := Lib.hid (HF.out.later hk)
  have HK2 := Lib.hid (HK.out.next hk)
  clear hk A HF HK
  have c0 := HF2.out.c0
  have c1 := HF2.out.c1
  have c2 := HF2.out.c2
  have c3 := HF2.out.c3
  have f3 := HF2.out.fr (i := 3)
  have X1 := Lib.hid (HF2.out.s3 255)
  have X2 := Lib.hid (HK2.out.setCell (p := ⟨P, 3, none⟩) (fun e => by have := LOW.out; simp only at e; omega) (.int .i64 255))
  go_wp2_with fail
  generalize w2.setCell ⟨P, 3, none⟩ (.int .i64 255) = w3 at *
  refine (CP.out _).mono ?_
  rintro e w4 ⟨rfl, hk⟩
  have HF4 := Lib.hid (X1.out.later hk)
  have HK4 := Lib.hid (X2.out.next hk)
  clear hk c0 c1 c2 c3 f3 X1 X2 HF2 HK2
  go_wp2_with fail
  refine (CT.out _).mono ?_
  rintro e w5 ⟨rfl, rfl⟩
  go_wp2_with fail
  refine (T1.out _).mono ?_
  rintro e w6 ⟨B1, rfl, hT, hk, hlow⟩
  have HF6 := Lib.hid (HF4.out.later hk)
  have HK6 := Lib.hid (HK4.out.next hk)
  have HT1 := Lib.hid hT
  clear hk hT hlow HF4 HK4 T1
  go_wp2_with fail
  refine (T2.out _).mono ?_
  rintro e w7 ⟨B2, rfl, hT, hk, hlow⟩
  have hk := ((Keeps.refl none' w6).alloc (.cells #[.int .i64 t] 3)).next hk
  have HF7 := Lib.hid (HF6.out.later hk)
  have HK7 := Lib.hid (HK6.out.next hk)
  have HT1 := Lib.hid (HT1.out.later hk)
  have HT2 := Lib.hid hT
  clear hk hT hlow HF6 HK6 T2
  have c0 := HF7.out.c0
  have c1 := HF7.out.c1
  have c2 := HF7.out.c2
  have c3 := HF7.out.c3
  go_wp2_with fail
  refine (MA.out _ _ HT2.out).mono ?_
  rintro e w8 ⟨rfl, hk⟩
  have L := Lib.hid (show Held w P w8.heap.size B1 ⟨r, g, b, 255⟩ ⟨Px.cutAt t r, Px.cutAt t g, Px.cutAt t b, 255⟩ (Px.repl 2 []) (w8.alloc (.cells #[.int .i64 (Px.cutAt t r), .int .i64 (Px.cutAt t g), .int .i64 (Px.cutAt t b), .int .i64 255] 26)) from
    ⟨(HF7.out.later hk).alloc _, Four.new _ _ _ _ _, (HT1.out.later hk).later ((Keeps.refl none' w8).alloc _), (HK7.out.next hk).alloc _⟩)
  clear hk c0 c1 c2 c3 HF7 HK7 HT1 HT2 MA
  go_wp2_with fail
  generalize w8.alloc (.cells #[.int .i64 (Px.cutAt t r), .int .i64 (Px.cutAt t g), .int .i64 (Px.cutAt t b), .int .i64 255] 26) = w9 at *
  generalize w8.heap.size = Q at *
  go_loopw [10] (Cnt3 (Held w P Q B1 ⟨r, g, b, 255⟩ ⟨Px.cutAt t r, Px.cutAt t g, Px.cutAt t b, 255⟩ (Px.repl 2 [])) (Held w P Q B1 ⟨r, g, b, 255⟩ ⟨Px.cutAt t r, Px.cutAt t g, Px.cutAt t b, 255⟩ (Px.repl 2 [])) (Held w P Q B1 ⟨r, g, b, 255⟩ ⟨Px.cutAt t r, Px.cutAt t g, Px.cutAt t b, 255⟩ (Px.repl 2 [])) (Held w P Q B1 ⟨r, g, b, 255⟩ ⟨Px.cutAt t r, Px.cutAt t g, Px.cutAt t b, 255⟩ (Px.repl 2 []))) (fun cnt _ => 3 - (intOf cnt).toNat)
  case atStart => exact .inl ⟨rfl, L.out⟩
  case round =>
    rcases hrel with ⟨rfl, hW⟩ | ⟨rfl, hW⟩ | ⟨rfl, hW⟩ | ⟨rfl, hW⟩
    · have c0 := hW.one.c0
      have d0 := hW.two.c0
      have HW := Lib.hid hW
      clear hW
      simp only at c0 d0
      by_cases hv : r < t
      · have e : Px.cutAt t r = 0 := if_pos hv
        rw [e] at d0
        have t1 : decide (r < t) = true := by simpa using hv
        have t2 : decide (t ≤ r) = false := by simp; omega
        clear e hv
        go_wp2_with fail
        go_roundw
        case rel => exact .inr (.inl ⟨rfl, HW.out⟩)
        case measure => decide
      · have e : Px.cutAt t r = 255 := if_neg hv
        rw [e] at d0
        have t1 : decide (r < t) = false := by simpa using hv
        have t2 : decide (t ≤ r) = true := by simp; omega
        clear e hv
        go_wp2_with fail
        go_roundw
        case rel => exact .inr (.inl ⟨rfl, HW.out⟩)
        case measure => decide
    · have c1 := hW.one.c1
      have d1 := hW.two.c1
      have HW := Lib.hid hW
      clear hW
      simp only at c1 d1
      by_cases hv : g < t
      · have e : Px.cutAt t g = 0 := if_pos hv
        rw [e] at d1
        have t1 : decide (g < t) = true := by simpa using hv
        have t2 : decide (t ≤ g) = false := by simp; omega
        clear e hv
        go_wp2_with fail
        go_roundw
        case rel => exact .inr (.inr (.inl ⟨rfl, HW.out⟩))
        case measure => decide
      · have e : Px.cutAt t g = 255 := if_neg hv
        rw [e] at d1
        have t1 : decide (g < t) = false := by simpa using hv
        have t2 : decide (t ≤ g) = true := by simp; omega
        clear e hv
        go_wp2_with fail
        go_roundw
        case rel => exact .inr (.inr (.inl ⟨rfl, HW.out⟩))
        case measure => decide
    · have c2 := hW.one.c2
      have d2 := hW.two.c2
      have HW := Lib.hid hW
      clear hW
      simp only at c2 d2
      by_cases hv : b < t
      · have e : Px.cutAt t b = 0 := if_pos hv
        rw [e] at d2
        have t1 : decide (b < t) = true := by simpa using hv
        have t2 : decide (t ≤ b) = false := by simp; omega
        clear e hv
        go_wp2_with fail
        go_roundw
        case rel => exact .inr (.inr (.inr (⟨rfl, HW.out⟩)))
        case measure => decide
      · have e : Px.cutAt t b = 255 := if_neg hv
        rw [e] at d2
        have t1 : decide (b < t) = false := by simpa using hv
        have t2 : decide (t ≤ b) = true := by simp; omega
        clear e hv
        go_wp2_with fail
        go_roundw
        case rel => exact .inr (.inr (.inr (⟨rfl, HW.out⟩)))
        case measure => decide
    · obtain ⟨w9, rfl⟩ : ∃ w9 : World, w9 = wr := ⟨_, rfl⟩
      have c0 := hW.one.c0
      have c1 := hW.one.c1
      have c2 := hW.one.c2
      have c3 := hW.one.c3
      have HT := Lib.hid hW.tbl
      have KK := Lib.hid hW.keeps
      clear hW
      have OW := Lib.hid (Keeps.refl none' w9)
      have OD := Lib.hid ((Keeps.refl none' w9).drew)
      have D1 : ∀ w', (w'.cell? ⟨P, 0, none⟩ = some (.int .i64 r) ∧ w'.cell? ⟨P, 1, none⟩ = some (.int .i64 g) ∧ w'.cell? ⟨P, 2, none⟩ = some (.int .i64 b) ∧ w'.cell? ⟨P, 3, none⟩ = some (.int .i64 255) ∧ Keeps none' w9 w') → Calls Tryd.prog 25 #[.slice (some ⟨B1, 0, none⟩) 256 256, .agg #[.int .i64 r, .int .i64 g, .int .i64 b, .int .i64 255]] w' fun e w'' => e = .returned (.agg #[.int .i64 (255 - r), .int .i64 (255 - g), .int .i64 (255 - b), .int .i64 255]) ∧ (w''.cell? ⟨P, 0, none⟩ = some (.int .i64 r) ∧ w''.cell? ⟨P, 1, none⟩ = some (.int .i64 g) ∧ w''.cell? ⟨P, 2, none⟩ = some (.int .i64 b) ∧ w''.cell? ⟨P, 3, none⟩ = some (.int .i64 255) ∧ Keeps none' w9 w'') := by
          rintro w' ⟨h0, h1, h2, h3, h4⟩
          refine (MB.out w' B1 (HT.out.later h4)).mono ?_
          rintro e w'' ⟨rfl, k⟩
          exact ⟨rfl, k.cell h0, k.cell h1, k.cell h2, k.cell h3, h4.next k⟩
      have D1 := Lib.hid D1
      have D2 : ∀ w', (w'.cell? ⟨P, 0, none⟩ = some (.int .i64 r) ∧ w'.cell? ⟨P, 1, none⟩ = some (.int .i64 g) ∧ w'.cell? ⟨P, 2, none⟩ = some (.int .i64 b) ∧ w'.cell? ⟨P, 3, none⟩ = some (.int .i64 255) ∧ Keeps none' w9 w') → Calls Tryd.prog 25 #[.slice (some ⟨B1, 0, none⟩) 256 256, .agg #[.int .i64 (255 - r), .int .i64 (255 - g), .int .i64 (255 - b), .int .i64 255]] w' fun e w'' => e = .returned (.agg #[.int .i64 r, .int .i64 g, .int .i64 b, .int .i64 255]) ∧ (w''.cell? ⟨P, 0, none⟩ = some (.int .i64 r) ∧ w''.cell? ⟨P, 1, none⟩ = some (.int .i64 g) ∧ w''.cell? ⟨P, 2, none⟩ = some (.int .i64 b) ∧ w''.cell? ⟨P, 3, none⟩ = some (.int .i64 255) ∧ Keeps none' w9 w'') := by
          rintro w' ⟨h0, h1, h2, h3, h4⟩
          refine (MC.out w' B1 (HT.out.later h4)).mono ?_
          rintro e w'' ⟨rfl, k⟩
          exact ⟨rfl, k.cell h0, k.cell h1, k.cell h2, k.cell h3, h4.next k⟩
      have D2 := Lib.hid D2
      go_wp2_with fail
      go_region_held3 (fun w' => w'.cell? ⟨P, 0, none⟩ = some (.int .i64 r) ∧ w'.cell? ⟨P, 1, none⟩ = some (.int .i64 g) ∧ w'.cell? ⟨P, 2, none⟩ = some (.int .i64 b) ∧ w'.cell? ⟨P, 3, none⟩ = some (.int .i64 255) ∧ Keeps none' w9 w') (first | exact ⟨c0, c1, c2, c3, OW.out⟩ | exact ⟨c0, c1, c2, c3, OD.out⟩ | (refine ⟨‹_›, ‹_›, ‹_›, ‹_›, ‹_›⟩) | go_keep) (first | (go_at_call 25; first | ((with_reducible refine (D1.out _ ?_).mono ?_); (first | exact ⟨‹_›, ‹_›, ‹_›, ‹_›, ‹_›⟩ | exact ⟨c0, c1, c2, c3, OD.out⟩); rintro e w' ⟨rfl, k0, k1, k2, k3, k4⟩) | ((with_reducible refine (D2.out _ ?_).mono ?_); (first | exact ⟨‹_›, ‹_›, ‹_›, ‹_›, ‹_›⟩ | exact ⟨c0, c1, c2, c3, OD.out⟩); rintro e w' ⟨rfl, k0, k1, k2, k3, k4⟩)))
      all_goals go_wp2_with fail
      all_goals go_ret
      all_goals exact ⟨rfl, KK.out.next (by assumption)⟩
theorem invert_walk (p : Px.Pix) (t : Int) (w : World) (hW : Ways w) : Calls Tryd.prog 11 #[.agg #[.int .i64 p.r, .int .i64 p.g, .int .i64 p.b, .int .i64 p.a], .int .i64 t] w (Yes w) := by
  by_cases hp : Px.Pix.ok ⟨p.r, p.g, p.b, 255⟩
  · by_cases ht : Px.Byte t
    · exact invert_good p t w hW hp ht
    · exact invert_bad2 p t w hW hp ht
  · exact invert_bad1 p t w hW hp
end Go.Proofs.YtfofghakjjblfaaDoor
