/- Texts of a layer, one behind the other. -/
import Derived.Test.YtfcpbpfemmdklaaGreatProg
import Derived.WalkKit
import Derived.WalkLawsBesides
import Derived.OneCell
import Derived.Outline
import Derived.Lib.Hide
import Derived.StillTailTactics
import Derived.BigQuiet
import Derived.BigRegion
import Derived.LoopTactic
import Derived.RegionTactic
import Derived.Deep.DeepMust
import Derived.Deep.QuietTactic
import Derived.Deep.LoopGhost
import Derived.Deep.OwnRows
import Derived.Deep.RegionHeld3
import Derived.Deep.RegionLaw
import Derived.Laws.BitsAllLaws
import Derived.Laws.StructEq
import Derived.Laws.Tables
/- The algebra of pixels in plain numbers. -/
namespace Go.Proofs.YtfcpbpfemmdklaaGreat.Pi
namespace Px

def Byte (a : Int) : Prop := 0 ≤ a ∧ a ≤ 255
/-- The nearest to p of 255 parts. -/
def near (p : Int) : Int := (p + 127) / 255
def mul (a b : Int) : Int := near (a * b)
def bare (c a : Int) : Int := if a = 0 then 0 else min ((255 * c + a / 2) / a) 255

theorem prod {a b : Int} (ha : Byte a) (hb : Byte b) : 0 ≤ a * b ∧ a * b ≤ 65025 := by
  obtain ⟨a0, a1⟩ := ha
  obtain ⟨b0, b1⟩ := hb
  exact ⟨Int.mul_nonneg a0 b0, by have := Int.mul_le_mul a1 b1 b0 (by omega); omega⟩
theorem near_byte {p : Int} (h0 : 0 ≤ p) (h1 : p ≤ 65025) : Byte (near p) := by unfold near Byte; omega
theorem mul_byte {a b : Int} (ha : Byte a) (hb : Byte b) : Byte (mul a b) := near_byte (prod ha hb).1 (prod ha hb).2
theorem mul_comm (a b : Int) : mul a b = mul b a := by unfold mul; rw [Int.mul_comm]
theorem mul_zero (a : Int) : mul a 0 = 0 := by unfold mul near; rw [Int.mul_zero]; rfl
theorem zero_mul (a : Int) : mul 0 a = 0 := by rw [mul_comm, mul_zero]
theorem mul_full (a : Int) : mul a 255 = a := by unfold mul near; omega
theorem full_mul (a : Int) : mul 255 a = a := by rw [mul_comm, mul_full]
theorem near_mono {p q : Int} (h : p ≤ q) : near p ≤ near q := by unfold near; omega
theorem mul_mono {a b c : Int} (h : a ≤ b) (hc : 0 ≤ c) : mul a c ≤ mul b c := near_mono (Int.mul_le_mul_of_nonneg_right h hc)
theorem mul_mono2 {a b c : Int} (h : a ≤ b) (hc : 0 ≤ c) : mul c a ≤ mul c b := near_mono (Int.mul_le_mul_of_nonneg_left h hc)
theorem mul_le {a b : Int} (ha : Byte a) (hb : Byte b) : mul a b ≤ a ∧ mul a b ≤ b := by
  have h1 := mul_mono2 (c := a) hb.2 ha.1
  have h2 := mul_mono ha.2 hb.1
  rw [mul_full] at h1
  rw [full_mul] at h2
  exact ⟨h1, h2⟩

/-- The document's product. -/
def docNear (p : Int) : Int := if 255 < 2 * (p - 255 * (p / 255)) then p / 255 + 1 else p / 255
theorem docNear_eq (p : Int) : docNear p = near p := by unfold docNear near; split <;> omega

theorem div_bounds {x a : Int} (ha : 0 < a) : a * (x / a) ≤ x ∧ x < a * (x / a) + a := by
  have h := Int.mul_ediv_add_emod x a
  have h1 := Int.emod_nonneg x (show a ≠ 0 by omega)
  have h2 := Int.emod_lt_of_pos x ha
  omega
theorem bare_byte {c a : Int} (hc : Byte c) (ha : Byte a) : Byte (bare c a) := by
  unfold bare Byte
  obtain ⟨c0, c1⟩ := hc
  obtain ⟨a0, a1⟩ := ha
  split
  · omega
  · have : 0 ≤ (255 * c + a / 2) / a := Int.ediv_nonneg (by omega) (by omega)
    omega
theorem bare_full {c : Int} (hc : Byte c) : bare c 255 = c := by unfold bare; unfold Byte at hc; rw [if_neg (by omega)]; omega
theorem bare_zero (a : Int) (ha : Byte a) : bare 0 a = 0 := by
  unfold bare
  split
  · rfl
  · obtain ⟨a0, a1⟩ := ha
    have h : (255 * 0 + a / 2) / a = 0 := Int.ediv_eq_zero_of_lt (by omega) (by omega)
    rw [h]; rfl
theorem bare_none (c : Int) : bare c 0 = 0 := rfl
/-- Bare and multiplied again: what it was. -/
theorem bare_back {c a : Int} (hc : Byte c) (ha : Byte a) (h : c ≤ a) : mul (bare c a) a = c := by
  obtain ⟨c0, c1⟩ := hc
  obtain ⟨a0, a1⟩ := ha
  unfold bare
  split
  · rename_i e; subst e; rw [mul_zero]; omega
  · have hb := div_bounds (x := 255 * c + a / 2) (a := a) (by omega)
    have hv : (255 * c + a / 2) / a ≤ 255 := by
      have : (255 * c + a / 2) / a < 256 := Int.ediv_lt_of_lt_mul (by omega) (by omega)
      omega
    rw [Int.min_eq_left hv]
    generalize (255 * c + a / 2) / a = v at *
    unfold mul near
    rw [Int.mul_comm]
    generalize a * v = p at *
    omega
/-- Multiplied and made bare again: off by what rounding costs. -/
theorem mul_bare {a b : Int} (ha : Byte a) (hb : Byte b) : b = 0 ∨ (b * (bare (mul a b) b - a) ≤ 255 ∧ -255 ≤ b * (bare (mul a b) b - a)) := by
  by_cases h0 : b = 0
  · exact .inl h0
  · refine .inr ?_
    have hp := prod ha hb
    obtain ⟨a0, a1⟩ := ha
    obtain ⟨b0, b1⟩ := hb
    unfold bare
    rw [if_neg h0]
    have hm : mul a b = near (a * b) := rfl
    have hq := div_bounds (x := 255 * mul a b + b / 2) (a := b) (by omega)
    have hn : 255 * mul a b ≤ a * b + 127 ∧ a * b - 127 ≤ 255 * mul a b := by rw [hm]; unfold near; omega
    generalize (255 * mul a b + b / 2) / b = v at *
    by_cases hv : v ≤ 255
    · rw [Int.min_eq_left hv, Int.mul_sub, Int.mul_comm b a]
      omega
    · rw [Int.min_eq_right (by omega), Int.mul_sub, Int.mul_comm b a]
      have h1 : b * 255 ≤ b * v := Int.mul_le_mul_of_nonneg_left (by omega) b0
      have h2 : a * b ≤ 255 * b := Int.mul_le_mul_of_nonneg_right a1 b0
      omega

/-! Ways. -/
def shareOf (k other : Int) : Int := if k = 1 then 255 else if k = 2 then other else if k = 3 then 255 - other else 0
theorem share_byte {k o : Int} (h : Byte o) : Byte (shareOf k o) := by
  unfold shareOf Byte at *; split
  · omega
  · split
    · omega
    · split <;> omega
def wayRow : Nat → Int × Int
  | 0 => (0, 0) | 1 => (1, 0) | 2 => (0, 1) | 3 => (1, 3) | 4 => (3, 1) | 5 => (2, 0) | 6 => (0, 2) | 7 => (3, 0) | 8 => (0, 3) | 9 => (2, 3) | 10 => (3, 2) | 11 => (3, 3) | _ => (0, 0)
def wayNo (w : Int) : Nat := if w < 0 ∨ 12 ≤ w then 0 else w.toNat
theorem wayNo_lt (w : Int) : wayNo w < 12 := by unfold wayNo; split <;> omega
def F (way A : Int) : Int := shareOf (wayRow (wayNo way)).1 A
def G (way S : Int) : Int := shareOf (wayRow (wayNo way)).2 S
theorem F_byte {way A : Int} (h : Byte A) : Byte (F way A) := share_byte h
theorem G_byte {way A : Int} (h : Byte A) : Byte (G way A) := share_byte h
/-- One number of a way. -/
def laid (way A S s d : Int) : Int := min (mul s (F way A) + mul d (G way S)) 255
theorem laid_byte {way A S s d : Int} (hA : Byte A) (hS : Byte S) (hs : Byte s) (hd : Byte d) : Byte (laid way A S s d) := by
  have h1 := mul_byte hs (F_byte (way := way) hA)
  have h2 := mul_byte hd (G_byte (way := way) hS)
  unfold laid Byte at *
  omega
theorem laid_mono {way A S s d : Int} (hA : Byte A) (hS : Byte S) (hs : s ≤ S) (hd : d ≤ A) : laid way A S s d ≤ laid way A S S A := by
  have h1 := mul_mono hs (F_byte (way := way) hA).1
  have h2 := mul_mono hd (G_byte (way := way) hS).1
  unfold laid
  omega

/-! Pixels. -/
structure Pix where
  r : Int
  g : Int
  b : Int
  a : Int
def Pix.ok (p : Pix) : Prop := Byte p.r ∧ Byte p.g ∧ Byte p.b ∧ Byte p.a ∧ p.r ≤ p.a ∧ p.g ≤ p.a ∧ p.b ≤ p.a
instance (a : Int) : Decidable (Byte a) := inferInstanceAs (Decidable (0 ≤ a ∧ a ≤ 255))
instance (p : Pix) : Decidable p.ok := inferInstanceAs (Decidable (_ ∧ _))
def Pix.bytes (p : Pix) : Prop := Byte p.r ∧ Byte p.g ∧ Byte p.b ∧ Byte p.a
theorem Pix.ok.bytes {p : Pix} (h : p.ok) : p.bytes := ⟨h.1, h.2.1, h.2.2.1, h.2.2.2.1⟩
def way (k : Int) (s d : Pix) : Pix := ⟨laid k d.a s.a s.r d.r, laid k d.a s.a s.g d.g, laid k d.a s.a s.b d.b, laid k d.a s.a s.a d.a⟩
theorem way_bytes {k : Int} {s d : Pix} (hs : s.bytes) (hd : d.bytes) : (way k s d).bytes :=
  ⟨laid_byte hd.2.2.2 hs.2.2.2 hs.1 hd.1, laid_byte hd.2.2.2 hs.2.2.2 hs.2.1 hd.2.1, laid_byte hd.2.2.2 hs.2.2.2 hs.2.2.1 hd.2.2.1, laid_byte hd.2.2.2 hs.2.2.2 hs.2.2.2 hd.2.2.2⟩
theorem way_ok {k : Int} {s d : Pix} (hs : s.ok) (hd : d.ok) : (way k s d).ok := by
  obtain ⟨b1, b2, b3, b4⟩ := way_bytes (k := k) hs.bytes hd.bytes
  obtain ⟨-, -, -, sa, s1, s2, s3⟩ := hs
  obtain ⟨-, -, -, da, d1, d2, d3⟩ := hd
  exact ⟨b1, b2, b3, b4, laid_mono da sa s1 d1, laid_mono da sa s2 d2, laid_mono da sa s3 d3⟩
def nothing : Pix := ⟨0, 0, 0, 0⟩
theorem nothing_ok : nothing.ok := by decide

/-! Modes. -/
def screened (x y : Int) : Int := x + y - mul x y
def hardLit (x y : Int) : Int := if y ≤ 127 then mul x (2 * y) else screened x (2 * y - 255)
def dodged (x y : Int) : Int := if x = 0 then 0 else if y = 255 then 255 else min (255 * x / (255 - y)) 255
def burnt (x y : Int) : Int := if x = 255 then 255 else if y = 0 then 0 else 255 - min (255 * (255 - x) / y) 255
def softLit (x y : Int) : Int := min (max (mul x x + 2 * mul x y - 2 * mul (mul x x) y) 0) 255
def mixed (m x y : Int) : Int :=
  if m = 1 then mul x y else if m = 2 then screened x y else if m = 3 then hardLit y x else if m = 4 then min x y else if m = 5 then max x y
  else if m = 6 then dodged x y else if m = 7 then burnt x y else if m = 8 then hardLit x y else if m = 9 then max x y - min x y
  else if m = 10 then x + y - 2 * mul x y else if m = 11 then softLit x y else y
theorem screened_byte {x y : Int} (hx : Byte x) (hy : Byte y) : Byte (screened x y) := by
  have h := mul_le hx hy
  have h3 : (255 - x) * (255 - y) = 65025 - 255 * x - 255 * y + x * y := by
    rw [Int.sub_mul, Int.mul_sub, Int.mul_sub]; omega
  have h4 := Int.mul_nonneg (show 0 ≤ 255 - x by unfold Byte at hx; omega) (show 0 ≤ 255 - y by unfold Byte at hy; omega)
  have h5 : mul x y = (x * y + 127) / 255 := rfl
  unfold screened Byte at *
  omega
theorem screened_le {x y : Int} (hx : Byte x) (hy : Byte y) : x ≤ screened x y ∧ y ≤ screened x y := by
  have h := mul_le hx hy
  unfold screened
  omega
theorem hardLit_byte {x y : Int} (hx : Byte x) (hy : Byte y) : Byte (hardLit x y) := by
  unfold hardLit
  split
  · exact mul_byte hx (by unfold Byte at *; omega)
  · exact screened_byte hx (by unfold Byte at *; omega)
theorem dodged_byte {x y : Int} (hx : Byte x) (hy : Byte y) : Byte (dodged x y) := by
  unfold dodged
  split
  · decide
  · split
    · decide
    · have : 0 ≤ 255 * x / (255 - y) := Int.ediv_nonneg (by unfold Byte at hx; omega) (by unfold Byte at hy; omega)
      unfold Byte; omega
theorem burnt_byte {x y : Int} (hx : Byte x) (hy : Byte y) : Byte (burnt x y) := by
  unfold burnt
  split
  · decide
  · split
    · decide
    · have : 0 ≤ 255 * (255 - x) / y := Int.ediv_nonneg (by unfold Byte at hx; omega) (by unfold Byte at hy; omega)
      unfold Byte; omega
theorem min_byte {x y : Int} (hx : Byte x) (hy : Byte y) : Byte (min x y) := by unfold Byte at *; omega
theorem max_byte {x y : Int} (hx : Byte x) (hy : Byte y) : Byte (max x y) := by unfold Byte at *; omega
theorem apart_byte {x y : Int} (hx : Byte x) (hy : Byte y) : Byte (max x y - min x y) := by unfold Byte at *; omega
theorem excl_byte {x y : Int} (hx : Byte x) (hy : Byte y) : Byte (x + y - 2 * mul x y) := by
  have h2 := mul_le hx hy
  have h1 := mul_byte hx hy
  have h3 := screened_byte hx hy
  unfold screened at h3
  generalize mul x y = p at *
  unfold Byte at *
  omega
theorem softLit_byte (x y : Int) : Byte (softLit x y) := by unfold softLit Byte; omega
theorem mixed_byte {m x y : Int} (hx : Byte x) (hy : Byte y) : Byte (mixed m x y) := by
  unfold mixed
  split
  · exact mul_byte hx hy
  split
  · exact screened_byte hx hy
  split
  · exact hardLit_byte hy hx
  split
  · exact min_byte hx hy
  split
  · exact max_byte hx hy
  split
  · exact dodged_byte hx hy
  split
  · exact burnt_byte hx hy
  split
  · exact hardLit_byte hx hy
  split
  · exact apart_byte hx hy
  split
  · exact excl_byte hx hy
  split
  · exact softLit_byte x y
  · exact hy
def whole (S A : Int) : Int := screened A S
def blended (m A S s d : Int) : Int := min (mul s (255 - A) + mul d (255 - S) + mul (mul S A) (mixed m (bare d A) (bare s S))) (whole S A)
def blend (m : Int) (s d : Pix) : Pix := ⟨blended m d.a s.a s.r d.r, blended m d.a s.a s.g d.g, blended m d.a s.a s.b d.b, whole s.a d.a⟩
theorem blended_byte {m A S s d : Int} (hA : Byte A) (hS : Byte S) (hs : Byte s) (hd : Byte d) : Byte (blended m A S s d) ∧ blended m A S s d ≤ whole S A := by
  have h1 := mul_byte hs (b := 255 - A) (by unfold Byte at *; omega)
  have h2 := mul_byte hd (b := 255 - S) (by unfold Byte at *; omega)
  have h3 := mul_byte (mul_byte hS hA) (mixed_byte (m := m) (bare_byte hd hA) (bare_byte hs hS))
  have h4 := screened_byte hA hS
  unfold blended whole Byte at *
  omega
theorem blend_ok {m : Int} {s d : Pix} (hs : s.ok) (hd : d.ok) : (blend m s d).ok := by
  obtain ⟨sr, sg, sb, sa, -⟩ := hs
  obtain ⟨dr, dg, db, da, -⟩ := hd
  have h1 := blended_byte (m := m) da sa sr dr
  have h2 := blended_byte (m := m) da sa sg dg
  have h3 := blended_byte (m := m) da sa sb db
  exact ⟨h1.1, h2.1, h3.1, screened_byte da sa, h1.2, h2.2, h3.2⟩
theorem blend_nothing {m : Int} {s : Pix} (hs : s.ok) : blend m s nothing = s := by
  obtain ⟨hr, hg, hb, ha, h1, h2, h3⟩ := hs
  have e : ∀ c, c ≤ s.a → blended m 0 s.a c 0 = c := by
    intro c hc
    unfold blended whole screened
    rw [zero_mul, mul_zero, zero_mul, zero_mul, show (255 : Int) - 0 = 255 by rfl, mul_full]
    omega
  unfold blend nothing
  simp only [e _ h1, e _ h2, e _ h3]
  unfold whole screened
  rw [zero_mul, show 0 + s.a - 0 = s.a by omega]
theorem nothing_blend {m : Int} {d : Pix} (hd : d.ok) : blend m nothing d = d := by
  obtain ⟨hr, hg, hb, ha, h1, h2, h3⟩ := hd
  have e : ∀ c, c ≤ d.a → blended m d.a 0 0 c = c := by
    intro c hc
    unfold blended whole screened
    rw [zero_mul, mul_zero, zero_mul, zero_mul, show (255 : Int) - 0 = 255 by rfl, mul_full]
    omega
  unfold blend nothing
  simp only [e _ h1, e _ h2, e _ h3]
  unfold whole screened
  rw [mul_zero, show d.a + 0 - 0 = d.a by omega]
/-- On full pixels it is the mode's. -/
theorem blended_full {m x y : Int} (hx : Byte x) (hy : Byte y) : blended m 255 255 y x = mixed m x y := by
  have h := mixed_byte (m := m) hx hy
  unfold blended whole screened
  rw [bare_full hx, bare_full hy, show (255 : Int) - 255 = 0 by rfl, mul_zero, mul_zero, full_mul, full_mul]
  unfold Byte at h
  omega
def unmul (p : Pix) : Pix := ⟨bare p.r p.a, bare p.g p.a, bare p.b p.a, p.a⟩
def mult (p : Pix) : Pix := ⟨mul p.r p.a, mul p.g p.a, mul p.b p.a, p.a⟩
theorem mult_unmul {p : Pix} (h : p.ok) : mult (unmul p) = p := by
  obtain ⟨hr, hg, hb, ha, h1, h2, h3⟩ := h
  unfold mult unmul
  simp only [bare_back hr ha h1, bare_back hg ha h2, bare_back hb ha h3]
theorem unmul_bytes {p : Pix} (h : p.bytes) : (unmul p).bytes := ⟨bare_byte h.1 h.2.2.2, bare_byte h.2.1 h.2.2.2, bare_byte h.2.2.1 h.2.2.2, h.2.2.2⟩
theorem mult_ok {p : Pix} (h : p.bytes) : (mult p).ok :=
  ⟨mul_byte h.1 h.2.2.2, mul_byte h.2.1 h.2.2.2, mul_byte h.2.2.1 h.2.2.2, h.2.2.2, (mul_le h.1 h.2.2.2).2, (mul_le h.2.1 h.2.2.2).2, (mul_le h.2.2.1 h.2.2.2).2⟩
/-- The turned way: source and ground change places. -/
def turned : Nat → Nat
  | 0 => 0 | 1 => 2 | 2 => 1 | 3 => 4 | 4 => 3 | 5 => 6 | 6 => 5 | 7 => 8 | 8 => 7 | 9 => 10 | 10 => 9 | 11 => 11 | _ => 0
theorem wayRow_turned (k : Nat) (h : k < 12) : wayRow (turned k) = ((wayRow k).2, (wayRow k).1) ∧ turned k < 12 := by
  have : ∀ k : Fin 12, wayRow (turned k.1) = ((wayRow k.1).2, (wayRow k.1).1) ∧ turned k.1 < 12 := by decide
  exact this ⟨k, h⟩
theorem wayNo_nat (k : Nat) (h : k < 12) : wayNo (k : Int) = k := by unfold wayNo; rw [if_neg (by omega)]; omega
theorem way_turned (k : Nat) (h : k < 12) (s d : Pix) : way (k : Int) s d = way (turned k : Int) d s := by
  obtain ⟨h1, h2⟩ := wayRow_turned k h
  unfold way laid F G
  rw [wayNo_nat k h, wayNo_nat _ h2, h1]
  simp only [Int.add_comm]
end Px
end Go.Proofs.YtfcpbpfemmdklaaGreat.Pi

/- Tables of colours in plain numbers. -/
namespace Go.Proofs.YtfcpbpfemmdklaaGreat.Pi
namespace Px
set_option linter.unusedVariables false

/-- On the line between two points. -/
def line (x0 y0 x1 y1 v : Int) : Int := y0 + ((y1 - y0) * (v - x0)).tdiv (x1 - x0)
theorem line_left {x0 y0 x1 y1 : Int} : line x0 y0 x1 y1 x0 = y0 := by unfold line; rw [Int.sub_self, Int.mul_zero, Int.zero_tdiv, Int.add_zero]
theorem line_right {x0 y0 x1 y1 : Int} (h : x0 < x1) : line x0 y0 x1 y1 x1 = y1 := by
  unfold line; rw [Int.mul_tdiv_cancel _ (by omega)]; omega
theorem tdiv_part {p q : Int} (d : Int) (hq : 0 < q) (h0 : 0 ≤ p) (h1 : p ≤ q) (hd : 0 ≤ d) : 0 ≤ (d * p).tdiv q ∧ (d * p).tdiv q ≤ d := by
  have hm : 0 ≤ d * p := Int.mul_nonneg hd h0
  rw [Int.tdiv_eq_ediv_of_nonneg hm]
  refine ⟨Int.ediv_nonneg hm (by omega), ?_⟩
  have : d * p ≤ d * q := Int.mul_le_mul_of_nonneg_left h1 hd
  exact Int.ediv_le_of_le_mul hq this
theorem line_byte {x0 y0 x1 y1 v : Int} (hx : x0 < x1) (h0 : x0 ≤ v) (h1 : v ≤ x1) (hy0 : Byte y0) (hy1 : Byte y1) : Byte (line x0 y0 x1 y1 v) := by
  unfold line
  rcases Int.le_total y0 y1 with h | h
  · have := tdiv_part (p := v - x0) (q := x1 - x0) (y1 - y0) (by omega) (by omega) (by omega) (by omega)
    unfold Byte at *
    omega
  · have := tdiv_part (p := v - x0) (q := x1 - x0) (y0 - y1) (by omega) (by omega) (by omega) (by omega)
    rw [show (y1 - y0) * (v - x0) = -((y0 - y1) * (v - x0)) by rw [← Int.neg_mul, Int.neg_sub], Int.neg_tdiv]
    unfold Byte at *
    omega

def pt (ps : List Int) (i : Nat) : Int := ps.getD i 0
/-- The height of a curve at v. -/
def CurveIs (ps : List Int) (v r : Int) : Prop :=
  (v ≤ pt ps 0 ∧ r = pt ps 1) ∨
  (∃ k, 0 < k ∧ 2 * k < ps.length ∧ (∀ j, j < k → pt ps (2 * j) < v) ∧ v ≤ pt ps (2 * k) ∧ r = line (pt ps (2 * k - 2)) (pt ps (2 * k - 1)) (pt ps (2 * k)) (pt ps (2 * k + 1)) v) ∨
  ((∀ j, 2 * j < ps.length → pt ps (2 * j) < v) ∧ r = pt ps (ps.length - 1))
/-- Points that rise. -/
def Points (ps : List Int) : Prop := 2 ≤ ps.length ∧ ps.length ≤ 32 ∧ ps.length % 2 = 0 ∧ ∀ k, 0 < k → 2 * k < ps.length → pt ps (2 * k - 2) < pt ps (2 * k)
theorem points_mono {ps : List Int} (h : Points ps) : ∀ (k j : Nat), j < k → 2 * k < ps.length → pt ps (2 * j) < pt ps (2 * k)
  | 0, j, hj, _ => absurd hj (by omega)
  | k + 1, j, hj, hk => by
    have h1 := h.2.2.2 (k + 1) (by omega) hk
    rw [show 2 * (k + 1) - 2 = 2 * k by omega] at h1
    by_cases e : j = k
    · subst e; exact h1
    · have := points_mono h k j (by omega) (by omega)
      omega
theorem curve_one {ps : List Int} {v r r' : Int} (hp : Points ps) (h : CurveIs ps v r) (h' : CurveIs ps v r') : r = r' := by
  have hl := hp.1
  rcases h with ⟨a, b⟩ | ⟨k, k0, kl, ka, kb, kr⟩ | ⟨a, b⟩ <;> rcases h' with ⟨a', b'⟩ | ⟨k', k0', kl', ka', kb', kr'⟩ | ⟨a', b'⟩
  · rw [b, b']
  · have := ka' 0 k0'; simp at this; omega
  · have := a' 0 (by omega); simp at this; omega
  · have := ka 0 k0; simp at this; omega
  · have e : k = k' := by
      rcases Nat.lt_trichotomy k k' with e | e | e
      · have := ka' k e; omega
      · exact e
      · have := ka k' e; omega
    subst e
    rw [kr, kr']
  · have := a' k kl; omega
  · have := a 0 (by omega); simp at this; omega
  · have := a k' kl'; omega
  · rw [b, b']
/-- As the document tells it: the next point's line begins where this one ends. -/
def CurveDoc (ps : List Int) (v r : Int) : Prop :=
  (v ≤ pt ps 0 ∧ r = pt ps 1) ∨
  (pt ps 0 < v ∧ ∃ k, 0 < k ∧ 2 * k < ps.length ∧ (∀ j, j < k → pt ps (2 * j) ≤ v) ∧ v < pt ps (2 * k) ∧ r = line (pt ps (2 * k - 2)) (pt ps (2 * k - 1)) (pt ps (2 * k)) (pt ps (2 * k + 1)) v) ∨
  (pt ps 0 < v ∧ (∀ j, 2 * j < ps.length → pt ps (2 * j) ≤ v) ∧ r = pt ps (ps.length - 1))
theorem curve_doc {ps : List Int} {v r : Int} (hp : Points ps) (h : CurveDoc ps v r) : CurveIs ps v r := by
  have hl := hp.1
  rcases h with h | ⟨h0, k, k0, kl, ka, kb, kr⟩ | ⟨h0, a, b⟩
  · exact .inl h
  · by_cases e : v = pt ps (2 * (k - 1))
    · by_cases k1 : k = 1
      · subst k1; simp at e; omega
      · refine .inr (.inl ⟨k - 1, by omega, by omega, fun j hj => ?_, by omega, ?_⟩)
        · have := points_mono hp (k - 1) j hj (by omega); omega
        · have hr := hp.2.2.2 (k - 1) (by omega) (by omega)
          rw [kr, e, line_right hr, show 2 * k - 2 = 2 * (k - 1) by omega, line_left, show 2 * k - 1 = 2 * (k - 1) + 1 by omega]
    · refine .inr (.inl ⟨k, k0, kl, fun j hj => ?_, by omega, kr⟩)
      by_cases ej : j = k - 1
      · subst ej
        have := ka (k - 1) (by omega)
        omega
      · have := points_mono hp (k - 1) j (by omega) (by omega)
        have := ka (k - 1) (by omega)
        omega
  · obtain ⟨m, hm⟩ : ∃ m, ps.length = 2 * m + 2 := ⟨ps.length / 2 - 1, by have := hp.2.2.1; omega⟩
    by_cases e : v = pt ps (2 * m)
    · by_cases m0 : m = 0
      · subst m0; simp at e; omega
      · refine .inr (.inl ⟨m, by omega, by omega, fun j hj => ?_, by omega, ?_⟩)
        · have := points_mono hp m j hj (by omega); omega
        · have hr := hp.2.2.2 m (by omega) (by omega)
          rw [b, e, line_right hr, show ps.length - 1 = 2 * m + 1 by omega]
    · refine .inr (.inr ⟨fun j hj => ?_, b⟩)
      have h2 := a m (by omega)
      by_cases ej : j = m
      · subst ej; omega
      · have := points_mono hp m j (by omega) (by omega)
        omega
theorem pt_byte {ps : List Int} (h : ∀ z ∈ ps, Byte z) (i : Nat) : Byte (pt ps i) := by
  unfold pt
  rw [List.getD_eq_getElem?_getD]
  cases e : ps[i]? with
  | none => decide
  | some z => exact h z (List.mem_of_getElem? e)
theorem curve_byte {ps : List Int} {v r : Int} (hp : Points ps) (hb : ∀ z ∈ ps, Byte z) (h : CurveIs ps v r) : Byte r := by
  rcases h with ⟨_, rfl⟩ | ⟨k, k0, kl, ka, kb, rfl⟩ | ⟨_, rfl⟩
  · exact pt_byte hb 1
  · have h1 := hp.2.2.2 k k0 kl
    have h2 := ka (k - 1) (by omega)
    rw [show 2 * (k - 1) = 2 * k - 2 by omega] at h2
    exact line_byte h1 (by omega) kb (pt_byte hb _) (pt_byte hb _)
  · exact pt_byte hb _
noncomputable def curve (ps : List Int) (v : Int) : Int := Classical.epsilon (CurveIs ps v)
theorem curve_eq {ps : List Int} {v r : Int} (hp : Points ps) (h : CurveIs ps v r) : curve ps v = r :=
  curve_one hp (Classical.epsilon_spec ⟨r, h⟩) h
theorem curve_ex {ps : List Int} (hp : Points ps) (v : Int) : ∃ r, CurveIs ps v r := by
  by_cases h0 : v ≤ pt ps 0
  · exact ⟨_, .inl ⟨h0, rfl⟩⟩
  · by_cases h : ∃ k, 2 * k < ps.length ∧ v ≤ pt ps (2 * k)
    · have : ∀ n k, k ≤ n → 2 * k < ps.length → v ≤ pt ps (2 * k) → ∃ r, CurveIs ps v r := by
        intro n
        induction n with
        | zero =>
          intro k hk hl hv
          obtain rfl : k = 0 := by omega
          exact absurd hv h0
        | succ n ih =>
          intro k hk hl hv
          by_cases e : ∃ j, j < k ∧ v ≤ pt ps (2 * j)
          · obtain ⟨j, hj, hjv⟩ := e
            exact ih j (by omega) (by omega) hjv
          · have k0 : 0 < k := by
              rcases Nat.eq_zero_or_pos k with rfl | h
              · exact absurd hv h0
              · exact h
            exact ⟨_, .inr (.inl ⟨k, k0, hl, fun j hj => by
              have : ¬ v ≤ pt ps (2 * j) := fun c => e ⟨j, hj, c⟩
              omega, hv, rfl⟩)⟩
      obtain ⟨k, hk, hv⟩ := h
      exact this k k (Nat.le_refl _) hk hv
    · exact ⟨_, .inr (.inr ⟨fun j hj => by
        have : ¬ v ≤ pt ps (2 * j) := fun c => h ⟨j, hj, c⟩
        omega, rfl⟩)⟩

/-! Levels. -/
def level (lo hi v : Int) : Int := (255 * (min (max v lo) hi - lo) + (hi - lo) / 2) / (hi - lo)
theorem level_low {lo hi v : Int} (h : lo < hi) (hv : v ≤ lo) : level lo hi v = 0 := by
  unfold level
  rw [show min (max v lo) hi = lo by omega, Int.sub_self, Int.mul_zero, Int.zero_add]
  exact Int.ediv_eq_zero_of_lt (by omega) (by omega)
theorem level_high {lo hi v : Int} (h : lo < hi) (hv : hi ≤ v) : level lo hi v = 255 := by
  unfold level
  rw [show min (max v lo) hi = hi by omega, Int.mul_comm, Int.add_comm, Int.add_mul_ediv_left _ _ (by omega), Int.ediv_eq_zero_of_lt (by omega) (by omega)]
  rfl
theorem level_mid {lo hi v : Int} (h0 : lo < v) (h1 : v < hi) : level lo hi v = (255 * (v - lo) + (hi - lo) / 2) / (hi - lo) := by
  unfold level
  rw [show min (max v lo) hi = v by omega]
theorem level_byte {lo hi v : Int} (h : lo < hi) : Byte (level lo hi v) := by
  unfold level
  have h0 : 0 ≤ min (max v lo) hi - lo := by omega
  have h1 : min (max v lo) hi - lo ≤ hi - lo := by omega
  have hq : 0 < hi - lo := by omega
  generalize min (max v lo) hi - lo = p at *
  generalize hi - lo = q at *
  refine ⟨Int.ediv_nonneg (by omega) (by omega), ?_⟩
  have : (255 * p + q / 2) / q < 256 := Int.ediv_lt_of_lt_mul hq (by omega)
  omega
/-! Which params make a table, and what it has. -/
def Bytes (ps : List Int) : Prop := ∀ z ∈ ps, Byte z
def Fits (kind : Int) (ps : List Int) : Prop :=
  Bytes ps ∧ ((kind = 0 ∧ ps.length = 2 ∧ pt ps 0 < pt ps 1) ∨ (kind = 1 ∧ Points ps) ∨ (kind = 2 ∧ ps.length = 0) ∨ (kind = 3 ∧ ps.length = 1))
noncomputable def repl (kind : Int) (ps : List Int) (v : Int) : Int :=
  if kind = 0 then level (pt ps 0) (pt ps 1) v else if kind = 1 then curve ps v else if kind = 3 then (if v < pt ps 0 then 0 else 255) else 255 - v
theorem repl_byte {kind : Int} {ps : List Int} (h : Fits kind ps) {v : Int} (hv : Byte v) : Byte (repl kind ps v) := by
  obtain ⟨hb, ⟨rfl, _, h⟩ | ⟨rfl, h⟩ | ⟨rfl, h⟩ | ⟨rfl, h⟩⟩ := h
  · exact level_byte h
  · obtain ⟨r, hr⟩ := curve_ex h v
    show Byte (curve ps v)
    rw [curve_eq h hr]
    exact curve_byte h hb hr
  · show Byte (255 - v)
    unfold Byte at *
    omega
  · show Byte (if v < pt ps 0 then 0 else 255)
    split <;> decide
end Px
end Go.Proofs.YtfcpbpfemmdklaaGreat.Pi

/- Contracts of the small functions of pixels: numbers alone. -/
namespace Go.Proofs.YtfcpbpfemmdklaaGreat.Pi
open Go.RowKit
set_option linter.unusedVariables false

theorem wrap_i64 (n : Int) (h0 : -9223372036854775808 ≤ n) (h1 : n ≤ 9223372036854775807) : IntKind.i64.wrap n = n := by
  simp [IntKind.wrap, IntKind.bits, IntKind.signed]
  omega
theorem dec_byte (a : Int) : decide (Px.Byte a) = (decide (0 ≤ a) && decide (a ≤ 255)) := by
  by_cases h0 : 0 ≤ a <;> by_cases h1 : a ≤ 255 <;> simp [Px.Byte, h0, h1]
theorem quot_facts {c a : Int} (hc : Px.Byte c) (ha : Px.Byte a) (h : a ≠ 0) : 0 ≤ (255 * c + a / 2) / a ∧ (255 * c + a / 2) / a ≤ 255 * c + a / 2 ∧ 0 < a := by
  obtain ⟨c0, c1⟩ := hc
  obtain ⟨a0, a1⟩ := ha
  exact ⟨Int.ediv_nonneg (by omega) (by omega), Int.ediv_le_self _ (by omega), by omega⟩
theorem div_facts {p q : Int} (hp : 0 ≤ p) (hp2 : p ≤ 65025) (hq : 0 < q) : 0 ≤ p / q ∧ p / q ≤ 65025 :=
  ⟨Int.ediv_nonneg hp (by omega), by have := Int.ediv_le_self q hp; omega⟩
end Go.Proofs.YtfcpbpfemmdklaaGreat.Pi

/- The document's modes. -/
namespace Go.Proofs.YtfcpbpfemmdklaaGreat.Pi
open Go.RowKit
set_option linter.unusedVariables false

end Go.Proofs.YtfcpbpfemmdklaaGreat.Pi

/- Arrays of four numbers in memory; Unmultiply and Multiply. -/
namespace Go.Proofs.YtfcpbpfemmdklaaGreat.Pi
open Go.RowKit
set_option linter.unusedVariables false

/-- The blocks outside S are as they were. -/
structure Keeps (S : Nat → Prop) (w w' : World) : Prop where
  os : w'.os = w.os
  tape : w'.tape = w.tape
  output : w'.output = w.output
  size : w.heap.size ≤ w'.heap.size
  block : ∀ k, k < w.heap.size → ¬ S k → w'.heap[k]? = w.heap[k]?

theorem Keeps.refl (S : Nat → Prop) (w : World) : Keeps S w w := ⟨rfl, rfl, rfl, Nat.le_refl _, fun _ _ _ => rfl⟩
theorem Keeps.trans {S S1 : Nat → Prop} {a b c : World} (h : Keeps S a b) (k : Keeps S1 b c) (hS : ∀ i, i < a.heap.size → S1 i → S i) : Keeps S a c :=
  ⟨k.os.trans h.os, k.tape.trans h.tape, k.output.trans h.output, Nat.le_trans h.size k.size,
    fun i hi hn => (k.block i (Nat.lt_of_lt_of_le hi h.size) (fun s => hn (hS i hi s))).trans (h.block i hi hn)⟩
theorem Keeps.drewN {S : Nat → Prop} {a w : World} (h : Keeps S a w) (n : Nat) : Keeps S a (w.drewN n) := ⟨h.os, h.tape, h.output, h.size, h.block⟩
theorem Keeps.drew {S : Nat → Prop} {a w : World} (h : Keeps S a w) : Keeps S a w.drew := ⟨h.os, h.tape, h.output, h.size, h.block⟩
theorem Keeps.alloc {S : Nat → Prop} {a w : World} (h : Keeps S a w) (o : Obj) : Keeps S a (w.alloc o) :=
  ⟨h.os, h.tape, h.output, by have := h.size; simp; omega, fun i hi hn => (Below.heap_alloc _ _ _ (Nat.lt_of_lt_of_le hi h.size)).trans (h.block i hi hn)⟩
theorem Keeps.setCell {S : Nat → Prop} {a w : World} (h : Keeps S a w) {p : Addr} (hp : p.block < a.heap.size → S p.block) (u : Value) : Keeps S a (w.setCell p u) :=
  ⟨h.os, h.tape, h.output, by simp [World.setCell]; exact h.size, fun i hi hn => (Below.heap_setCell _ _ _ _ (fun e => hn (by subst e; exact hp hi))).trans (h.block i hi hn)⟩
theorem Keeps.below {S : Nat → Prop} {B : Nat} {w w' : World} (h : Keeps S w w') (hB : B ≤ w.heap.size) (hS : ∀ k, k < B → ¬ S k) : Below B w w' :=
  ⟨h.os, h.tape, h.output, h.size, fun k hk => h.block k (by omega) (hS k hk)⟩
/-- Nothing that was there has changed. -/
def none' : Nat → Prop := fun _ => False
theorem Keeps.later {w w' : World} (h : Keeps none' w w') : ∀ k, k < w.heap.size → w'.heap[k]? = w.heap[k]? := fun k hk => h.block k hk (fun h => h)
theorem Keeps.next {a b c : World} (h : Keeps none' a b) (k : Keeps none' b c) : Keeps none' a c := h.trans k (fun _ _ h => h)
theorem block_set {w : World} {R i : Nat} {c : Array Value} {t : TypeId} {f : Nat × Nat} (h : w.heap[R]? = some (.cells c t f)) (u : Value) :
    (w.setCell ⟨R, i, none⟩ u).heap[R]? = some (.cells (c.setIfInBounds i u) t f) := by
  simp only [World.setCell, Array.getElem?_modify, h]
  simp
theorem lt_of_block {w : World} {R : Nat} {o : Obj} (h : w.heap[R]? = some o) : R < w.heap.size := by
  obtain ⟨h, -⟩ := Array.getElem?_eq_some_iff.1 h
  exact h

/-- Four numbers in a block. -/
abbrev four (x y z a : Int) : Array Value := #[.int .i64 x, .int .i64 y, .int .i64 z, .int .i64 a]
def Four (w : World) (B : Nat) (x y z a : Int) : Prop := w.heap[B]? = some (.cells #[.int .i64 x, .int .i64 y, .int .i64 z, .int .i64 a] 139 (0, 0))
theorem Four.lt {w : World} {B : Nat} {x y z a : Int} (h : Four w B x y z a) : B < w.heap.size := lt_of_block h
theorem Four.later {w w' : World} {B : Nat} {x y z a : Int} (h : Four w B x y z a) (k : Keeps none' w w') : Four w' B x y z a := (k.later B h.lt).trans h
theorem Four.drew {w : World} {B : Nat} {x y z a : Int} (h : Four w B x y z a) : Four w.drew B x y z a := h
theorem Four.c0 {w : World} {B : Nat} {x y z a : Int} (h : Four w B x y z a) : w.cell? ⟨B, 0, none⟩ = some (.int .i64 x) := by simp [World.cell?, show w.heap[B]? = _ from h]
theorem Four.c1 {w : World} {B : Nat} {x y z a : Int} (h : Four w B x y z a) : w.cell? ⟨B, 1, none⟩ = some (.int .i64 y) := by simp [World.cell?, show w.heap[B]? = _ from h]
theorem Four.c2 {w : World} {B : Nat} {x y z a : Int} (h : Four w B x y z a) : w.cell? ⟨B, 2, none⟩ = some (.int .i64 z) := by simp [World.cell?, show w.heap[B]? = _ from h]
theorem Four.c3 {w : World} {B : Nat} {x y z a : Int} (h : Four w B x y z a) : w.cell? ⟨B, 3, none⟩ = some (.int .i64 a) := by simp [World.cell?, show w.heap[B]? = _ from h]
theorem Four.fr {w : World} {B i : Nat} {x y z a : Int} (h : Four w B x y z a) : w.frozen? ⟨B, i, none⟩ = false := by simp [World.frozen?, show w.heap[B]? = _ from h]
theorem Four.s0 {w : World} {B : Nat} {x y z a : Int} (h : Four w B x y z a) (v : Int) : Four (w.setCell ⟨B, 0, none⟩ (.int .i64 v)) B v y z a := block_set h _
theorem Four.s1 {w : World} {B : Nat} {x y z a : Int} (h : Four w B x y z a) (v : Int) : Four (w.setCell ⟨B, 1, none⟩ (.int .i64 v)) B x v z a := block_set h _
theorem Four.s2 {w : World} {B : Nat} {x y z a : Int} (h : Four w B x y z a) (v : Int) : Four (w.setCell ⟨B, 2, none⟩ (.int .i64 v)) B x y v a := block_set h _
theorem Four.s3 {w : World} {B : Nat} {x y z a : Int} (h : Four w B x y z a) (v : Int) : Four (w.setCell ⟨B, 3, none⟩ (.int .i64 v)) B x y z v := block_set h _
theorem Four.set {w : World} {B R i : Nat} {x y z a : Int} (h : Four w B x y z a) (hn : B ≠ R) (v : Value) : Four (w.setCell ⟨R, i, none⟩ v) B x y z a := (Below.heap_setCell _ _ _ _ hn).trans h
theorem Four.new (w : World) (x y z a : Int) : Four (w.alloc (.cells #[.int .i64 x, .int .i64 y, .int .i64 z, .int .i64 a] 139)) w.heap.size x y z a := heap_alloc_new _ _
theorem Four.alloc {w : World} {B : Nat} {x y z a : Int} (h : Four w B x y z a) (o : Obj) : Four (w.alloc o) B x y z a := (Below.heap_alloc _ _ _ h.lt).trans h

/-- A loop's counter up to three. -/
def Cnt3 (P0 P1 P2 P3 : World → Prop) (c : Value) (w : World) : Prop := (c = .int .i64 0 ∧ P0 w) ∨ (c = .int .i64 1 ∧ P1 w) ∨ (c = .int .i64 2 ∧ P2 w) ∨ (c = .int .i64 3 ∧ P3 w)
def Cnt4 (P0 P1 P2 P3 P4 : World → Prop) (c : Value) (w : World) : Prop := (c = .int .i64 0 ∧ P0 w) ∨ (c = .int .i64 1 ∧ P1 w) ∨ (c = .int .i64 2 ∧ P2 w) ∨ (c = .int .i64 3 ∧ P3 w) ∨ (c = .int .i64 4 ∧ P4 w)

/-- One block under way, another one ready. -/
structure Way1 (w : World) (B R : Nat) (x y z a : Int) (wr : World) : Prop where
  on : Four wr B x y z a
  res : Four wr R 0 0 0 0
  keeps : Keeps none' w wr
theorem Way1.s0 {w : World} {B R : Nat} {x y z a : Int} {wr : World} (h : Way1 w B R x y z a wr) (hB : w.heap.size ≤ B) (hR : B < R) (v : Int) : Way1 w B R v y z a (wr.drew.setCell ⟨B, 0, none⟩ (.int .i64 v)) :=
  ⟨h.on.drew.s0 v, h.res.drew.set (by omega) _, h.keeps.drew.setCell (fun e => by simp only at e; omega) _⟩
theorem Way1.s1 {w : World} {B R : Nat} {x y z a : Int} {wr : World} (h : Way1 w B R x y z a wr) (hB : w.heap.size ≤ B) (hR : B < R) (v : Int) : Way1 w B R x v z a (wr.drew.setCell ⟨B, 1, none⟩ (.int .i64 v)) :=
  ⟨h.on.drew.s1 v, h.res.drew.set (by omega) _, h.keeps.drew.setCell (fun e => by simp only at e; omega) _⟩
theorem Way1.s2 {w : World} {B R : Nat} {x y z a : Int} {wr : World} (h : Way1 w B R x y z a wr) (hB : w.heap.size ≤ B) (hR : B < R) (v : Int) : Way1 w B R x y v a (wr.drew.setCell ⟨B, 2, none⟩ (.int .i64 v)) :=
  ⟨h.on.drew.s2 v, h.res.drew.set (by omega) _, h.keeps.drew.setCell (fun e => by simp only at e; omega) _⟩

theorem Way1.put {w : World} {B R : Nat} {x y z a : Int} {wr : World} (h : Way1 w B R x y z a wr) (hB : w.heap.size ≤ B) (hR : B < R) :
    Four ((((wr.setCell ⟨R, 0, none⟩ (.int .i64 x)).setCell ⟨R, 1, none⟩ (.int .i64 y)).setCell ⟨R, 2, none⟩ (.int .i64 z)).setCell ⟨R, 3, none⟩ (.int .i64 a)) R x y z a ∧
    Keeps none' w ((((wr.setCell ⟨R, 0, none⟩ (.int .i64 x)).setCell ⟨R, 1, none⟩ (.int .i64 y)).setCell ⟨R, 2, none⟩ (.int .i64 z)).setCell ⟨R, 3, none⟩ (.int .i64 a)) :=
  ⟨(((h.res.s0 x).s1 y).s2 z).s3 a, (((h.keeps.setCell (fun e => by simp only at e; omega) _).setCell (fun e => by simp only at e; omega) _).setCell (fun e => by simp only at e; omega) _).setCell (fun e => by simp only at e; omega) _⟩

def Px.Pix.cells (p : Px.Pix) : Array Value := #[.int .i64 p.r, .int .i64 p.g, .int .i64 p.b, .int .i64 p.a]

end Go.Proofs.YtfcpbpfemmdklaaGreat.Pi

/- Is it a pixel? The ways, the program's and the document's. -/
namespace Go.Proofs.YtfcpbpfemmdklaaGreat.Pi
open Go.RowKit
set_option linter.unusedVariables false

theorem at26_0 (x y z a : Int) (w : World) : (Instr.index 139 (.agg #[.int .i64 x, .int .i64 y, .int .i64 z, .int .i64 a]) (.int .i64 0)).run Tryz.prog w = .ok (.int .i64 x) w := by kernel_rfl
theorem at26_1 (x y z a : Int) (w : World) : (Instr.index 139 (.agg #[.int .i64 x, .int .i64 y, .int .i64 z, .int .i64 a]) (.int .i64 1)).run Tryz.prog w = .ok (.int .i64 y) w := by kernel_rfl
theorem at26_2 (x y z a : Int) (w : World) : (Instr.index 139 (.agg #[.int .i64 x, .int .i64 y, .int .i64 z, .int .i64 a]) (.int .i64 2)).run Tryz.prog w = .ok (.int .i64 z) w := by kernel_rfl
theorem at26_3 (x y z a : Int) (w : World) : (Instr.index 139 (.agg #[.int .i64 x, .int .i64 y, .int .i64 z, .int .i64 a]) (.int .i64 3)).run Tryz.prog w = .ok (.int .i64 a) w := by kernel_rfl
def Good (c a : Int) : Prop := Px.Byte c ∧ c ≤ a
def InPix (w1 : World) (P : Prop) (w : World) : Prop := P ∧ w = w1
end Go.Proofs.YtfcpbpfemmdklaaGreat.Pi

/- The program's Way. -/
namespace Go.Proofs.YtfcpbpfemmdklaaGreat.Pi
open Go.RowKit
set_option linter.unusedVariables false

/-- The table of ways in memory. -/
def Ways (w : World) : Prop := ∀ n, n < 12 → w.cell? ⟨0, n * 2, none⟩ = some (.int .i64 (Px.wayRow n).1) ∧ w.cell? ⟨0, n * 2 + 1, none⟩ = some (.int .i64 (Px.wayRow n).2)
theorem Ways.later {w w' : World} (h : Ways w) (k : Keeps none' w w') : Ways w' := fun n hn =>
  ⟨(World.cell?_of_block (w := w) (k.later _ (World.block_lt_of_cell? w _ (h n hn).1))).trans (h n hn).1, (World.cell?_of_block (w := w) (k.later _ (World.block_lt_of_cell? w _ (h n hn).2))).trans (h n hn).2⟩

/-- Two pixels in memory, a result's place, one under way. -/
structure Lay (w : World) (S D R L : Nat) (s d : Px.Pix) (x y z a : Int) (wr : World) : Prop where
  src : Four wr S s.r s.g s.b s.a
  gnd : Four wr D d.r d.g d.b d.a
  res : Four wr R 0 0 0 0
  on : Four wr L x y z a
  keeps : Keeps none' w wr
structure Apart (w : World) (S D R L : Nat) : Prop where
  low : w.heap.size ≤ S
  a : S < D
  b : D < R
  c : R < L
section
variable {w : World} {S D R L : Nat} {s d : Px.Pix} {x y z a : Int} {wr : World}
theorem Lay.s0 (h : Lay w S D R L s d x y z a wr) (p : Apart w S D R L) (v : Int) : Lay w S D R L s d v y z a (wr.drew.setCell ⟨L, 0, none⟩ (.int .i64 v)) := by
  obtain ⟨p1, p2, p3, p4⟩ := p
  exact ⟨h.src.drew.set (by omega) _, h.gnd.drew.set (by omega) _, h.res.drew.set (by omega) _, h.on.drew.s0 v, h.keeps.drew.setCell (fun e => by simp only at e; omega) _⟩
theorem Lay.s1 (h : Lay w S D R L s d x y z a wr) (p : Apart w S D R L) (v : Int) : Lay w S D R L s d x v z a (wr.drew.setCell ⟨L, 1, none⟩ (.int .i64 v)) := by
  obtain ⟨p1, p2, p3, p4⟩ := p
  exact ⟨h.src.drew.set (by omega) _, h.gnd.drew.set (by omega) _, h.res.drew.set (by omega) _, h.on.drew.s1 v, h.keeps.drew.setCell (fun e => by simp only at e; omega) _⟩
theorem Lay.s2 (h : Lay w S D R L s d x y z a wr) (p : Apart w S D R L) (v : Int) : Lay w S D R L s d x y v a (wr.drew.setCell ⟨L, 2, none⟩ (.int .i64 v)) := by
  obtain ⟨p1, p2, p3, p4⟩ := p
  exact ⟨h.src.drew.set (by omega) _, h.gnd.drew.set (by omega) _, h.res.drew.set (by omega) _, h.on.drew.s2 v, h.keeps.drew.setCell (fun e => by simp only at e; omega) _⟩
theorem Lay.s3 (h : Lay w S D R L s d x y z a wr) (p : Apart w S D R L) (v : Int) : Lay w S D R L s d x y z v (wr.drew.setCell ⟨L, 3, none⟩ (.int .i64 v)) := by
  obtain ⟨p1, p2, p3, p4⟩ := p
  exact ⟨h.src.drew.set (by omega) _, h.gnd.drew.set (by omega) _, h.res.drew.set (by omega) _, h.on.drew.s3 v, h.keeps.drew.setCell (fun e => by simp only at e; omega) _⟩
theorem Lay.put (h : Lay w S D R L s d x y z a wr) (p : Apart w S D R L) :
    Four ((((wr.setCell ⟨R, 0, none⟩ (.int .i64 x)).setCell ⟨R, 1, none⟩ (.int .i64 y)).setCell ⟨R, 2, none⟩ (.int .i64 z)).setCell ⟨R, 3, none⟩ (.int .i64 a)) R x y z a ∧
    Keeps none' w ((((wr.setCell ⟨R, 0, none⟩ (.int .i64 x)).setCell ⟨R, 1, none⟩ (.int .i64 y)).setCell ⟨R, 2, none⟩ (.int .i64 z)).setCell ⟨R, 3, none⟩ (.int .i64 a)) := by
  obtain ⟨p1, p2, p3, p4⟩ := p
  exact ⟨(((h.res.s0 x).s1 y).s2 z).s3 a, (((h.keeps.setCell (fun e => by simp only at e; omega) _).setCell (fun e => by simp only at e; omega) _).setCell (fun e => by simp only at e; omega) _).setCell (fun e => by simp only at e; omega) _⟩
end
abbrev agg (p : Px.Pix) : Value := .agg #[.int .i64 p.r, .int .i64 p.g, .int .i64 p.b, .int .i64 p.a]
/-- Where a call has laid two pixels and a place for its result. -/
theorem three_new (w : World) (s d : Px.Pix) :
    Four (((w.alloc (.cells #[.int .i64 s.r, .int .i64 s.g, .int .i64 s.b, .int .i64 s.a] 139)).alloc (.cells #[.int .i64 d.r, .int .i64 d.g, .int .i64 d.b, .int .i64 d.a] 139)).alloc (.cells #[.int .i64 0, .int .i64 0, .int .i64 0, .int .i64 0] 139)) w.heap.size s.r s.g s.b s.a ∧
    Four (((w.alloc (.cells #[.int .i64 s.r, .int .i64 s.g, .int .i64 s.b, .int .i64 s.a] 139)).alloc (.cells #[.int .i64 d.r, .int .i64 d.g, .int .i64 d.b, .int .i64 d.a] 139)).alloc (.cells #[.int .i64 0, .int .i64 0, .int .i64 0, .int .i64 0] 139)) (w.heap.size + 1) d.r d.g d.b d.a ∧
    Four (((w.alloc (.cells #[.int .i64 s.r, .int .i64 s.g, .int .i64 s.b, .int .i64 s.a] 139)).alloc (.cells #[.int .i64 d.r, .int .i64 d.g, .int .i64 d.b, .int .i64 d.a] 139)).alloc (.cells #[.int .i64 0, .int .i64 0, .int .i64 0, .int .i64 0] 139)) (w.heap.size + 1 + 1) 0 0 0 0 := by
  refine ⟨((Four.new _ _ _ _ _).alloc _).alloc _, ?_, ?_⟩
  · have := (Four.new (w.alloc (.cells #[.int .i64 s.r, .int .i64 s.g, .int .i64 s.b, .int .i64 s.a] 139)) d.r d.g d.b d.a).alloc (.cells #[.int .i64 0, .int .i64 0, .int .i64 0, .int .i64 0] 139)
    simpa using this
  · have := Four.new ((w.alloc (.cells #[.int .i64 s.r, .int .i64 s.g, .int .i64 s.b, .int .i64 s.a] 139)).alloc (.cells #[.int .i64 d.r, .int .i64 d.g, .int .i64 d.b, .int .i64 d.a] 139)) 0 0 0 0
    simpa using this

theorem sum_min {x y : Int} (hx : Px.Byte x) (hy : Px.Byte y) : IntKind.i64.wrap (x + y) = x + y ∧ (if 255 < x + y then 255 else x + y) = min (x + y) 255 := by
  obtain ⟨a, b⟩ := hx
  obtain ⟨c, d⟩ := hy
  exact ⟨wrap_i64 _ (by omega) (by omega), by omega⟩
end Go.Proofs.YtfcpbpfemmdklaaGreat.Pi

/- The document's examples; PixMuls. -/
namespace Go.Proofs.YtfcpbpfemmdklaaGreat.Pi
open Go.RowKit
set_option linter.unusedVariables false

theorem eq26 (a b c d a' b' c' d' : Int) (w : World) : (Op.equalIn 10000 139 (.agg #[.int .i64 a, .int .i64 b, .int .i64 c, .int .i64 d]) (.agg #[.int .i64 a', .int .i64 b', .int .i64 c', .int .i64 d'])).run Tryz.prog w = .ok (a == a' && b == b' && c == c' && d == d') w := by
  have u3 := Tryz.underlying3
  have a3 := Tryz.isAgg3
  have z3 := Tryz.sizeOf3
  rw [show (10000 : Nat) = 9999 + 1 from rfl, Op.equalIn]
  simp only [Sem.run_bind, run_underlying Tryz.underlying139, Result.andThen_ok]
  simp only [Std.Legacy.Range.forIn_eq_forIn_range', Std.Legacy.Range.size, Nat.sub_zero, Nat.add_sub_cancel, Nat.div_one, List.range'_succ, List.range'_zero, List.forIn_cons, List.forIn_nil]
  go_simp
  by_cases h1 : a = a' <;> by_cases h2 : b = b' <;> by_cases h3 : c = c' <;> by_cases h4 : d = d' <;> simp [h1, h2, h3, h4]
theorem eq26_self (a b c d : Int) (w : World) : (Op.equalIn 10000 139 (.agg #[.int .i64 a, .int .i64 b, .int .i64 c, .int .i64 d]) (.agg #[.int .i64 a, .int .i64 b, .int .i64 c, .int .i64 d])).run Tryz.prog w = .ok true w := by
  rw [eq26]; simp

/-- A law's end: true, and the old memory as it was. -/
def Yes (w : World) (e : Ending) (w' : World) : Prop := e = .returned (.bool true) ∧ Keeps none' w w'
theorem ex_way : (Px.way 3 ⟨128, 0, 0, 128⟩ ⟨0, 0, 255, 255⟩) = ⟨128, 0, 127, 255⟩ := by kernel_rfl
end Go.Proofs.YtfcpbpfemmdklaaGreat.Pi

/- PixBack. -/
namespace Go.Proofs.YtfcpbpfemmdklaaGreat.Pi
open Go.RowKit
set_option linter.unusedVariables false

theorem Keeps.cell {w w' : World} (h : Keeps none' w w') {a : Addr} {v : Value} (hc : w.cell? a = some v) : w'.cell? a = some v :=
  (World.cell?_of_block (w := w) (h.later _ (World.block_lt_of_cell? w _ hc))).trans hc
/-- Two blocks of four that stay. -/
structure Both (w : World) (P T : Nat) (p u : Px.Pix) (wr : World) : Prop where
  one : Four wr P p.r p.g p.b p.a
  two : Four wr T u.r u.g u.b u.a
  keeps : Keeps none' w wr
theorem Both.drewN {w wr : World} {P T : Nat} {p u : Px.Pix} (h : Both w P T p u wr) (n : Nat) : Both w P T p u (wr.drewN n) := ⟨h.one, h.two, h.keeps.drewN n⟩
theorem Both.next {w wr w' : World} {P T : Nat} {p u : Px.Pix} (h : Both w P T p u wr) (k : Keeps none' wr w') : Both w P T p u w' := ⟨h.one.later k, h.two.later k, h.keeps.next k⟩
end Go.Proofs.YtfcpbpfemmdklaaGreat.Pi

/- Lists of numbers that came in; the small functions of tables. -/
namespace Go.Proofs.YtfcpbpfemmdklaaGreat.Pi
open Go.RowKit
set_option linter.unusedVariables false

/-- Numbers that a slice value leads to. -/
def Ints (w : World) (a : Option Addr) (n : Nat) (zs : List Int) : Prop :=
  zs.length = n ∧ (∀ z ∈ zs, -9223372036854775808 ≤ z ∧ z ≤ 9223372036854775807) ∧ (0 < n → ∃ b off, a = some ⟨b, off, none⟩ ∧ ∀ (j : Nat) (z : Int), zs[j]? = some z → w.cell? ⟨b, off + j, none⟩ = some (.int .i64 z))
theorem Ints.later {w w' : World} {a : Option Addr} {n : Nat} {zs : List Int} (h : Ints w a n zs) (k : Keeps none' w w') : Ints w' a n zs := by
  obtain ⟨h1, h2, h3⟩ := h
  refine ⟨h1, h2, fun hp => ?_⟩
  obtain ⟨b, off, e, hc⟩ := h3 hp
  exact ⟨b, off, e, fun j y hj => k.cell (hc j y hj)⟩
theorem Ints.at {w : World} {a : Option Addr} {n i : Nat} {zs : List Int} (h : Ints w a n zs) (hi : i < n) : ∃ b off, a = some ⟨b, off, none⟩ ∧ (-9223372036854775808 ≤ Px.pt zs i ∧ Px.pt zs i ≤ 9223372036854775807) ∧ w.cell? ⟨b, off + i, none⟩ = some (.int .i64 (Px.pt zs i)) := by
  obtain ⟨h1, h2, h3⟩ := h
  obtain ⟨b, off, e, hc⟩ := h3 (by omega)
  have hl : i < zs.length := by omega
  have ep : Px.pt zs i = zs[i] := by unfold Px.pt; rw [List.getD_eq_getElem?_getD, List.getElem?_eq_getElem hl]; rfl
  rw [ep]
  exact ⟨b, off, e, h2 _ (List.getElem_mem hl), hc i _ (List.getElem?_eq_getElem hl)⟩
theorem noNumber_any (z : Int) (w : World) : Calls Tryz.prog 150 #[.int .i64 z] w fun e w' => e = .returned (.bool (!decide (Px.Byte z))) ∧ w' = w := by
  by_cases h0 : z < 0
  · rw [decide_eq_false (fun h : Px.Byte z => by have := h.1; omega)]
    have t : decide (z < 0) = true := by simpa using h0
    go_enter Tryz.func150, Tryz.ntmps150
    go_wp2
    go_ret
    exact ⟨rfl, rfl⟩
  · have t : decide (z < 0) = false := by simpa using h0
    by_cases h1 : 255 < z
    · rw [decide_eq_false (fun h : Px.Byte z => by have := h.2; omega)]
      have t1 : decide (255 < z) = true := by simpa using h1
      go_enter Tryz.func150, Tryz.ntmps150
      go_wp2
      go_ret
      exact ⟨rfl, rfl⟩
    · rw [decide_eq_true (show Px.Byte z from ⟨by omega, by omega⟩)]
      have t1 : decide (255 < z) = false := by simpa using h1
      go_enter Tryz.func150, Tryz.ntmps150
      go_wp2
      go_ret
      exact ⟨rfl, rfl⟩
/-- What a search for a number that is none answers. -/
def Found (zs : List Int) (w : World) (e : Ending) (w' : World) : Prop := ∃ r : Int, e = .returned (.int .i64 r) ∧ w' = w ∧ ((r = -1 ∧ Px.Bytes zs) ∨ (0 ≤ r ∧ ¬ Px.Bytes zs))
theorem take_bytes {zs : List Int} {i : Nat} (h : ∀ j, j < i → Px.Byte (Px.pt zs j)) (hl : zs.length ≤ i) : Px.Bytes zs := by
  intro z hz
  obtain ⟨j, hj, rfl⟩ := List.getElem_of_mem hz
  have := h j (by omega)
  unfold Px.pt at this
  rwa [List.getD_eq_getElem?_getD, List.getElem?_eq_getElem hj] at this
theorem index_any (w : World) (a : Option Addr) (n c : Nat) (zs : List Int) (hn : n ≤ 16777216) (h : Ints w a n zs) : Calls Tryz.prog 158 #[.slice a n c, .func (.func 150) #[] #[]] w (Found zs w) := by
  have H := Lib.hid h
  clear h
  go_enter Tryz.func158, Tryz.ntmps158
  go_wp2_with fail
  go_loopw [8] (fun cnt wr => ∃ i : Nat, i ≤ n ∧ cnt = .int .i64 i ∧ (∀ j, j < i → Px.Byte (Px.pt zs j)) ∧ wr = w) (fun cnt _ => n - (intOf cnt).toNat)
  case atStart => exact ⟨0, Nat.zero_le _, rfl, fun j hj => absurd hj (by omega), rfl⟩
  case round =>
    obtain ⟨i, hi, rfl, hB, rfl⟩ := hrel
    have HB := Lib.hid hB
    clear hB
    by_cases hlt : i < n
    · obtain ⟨b, off, rfl, hz, hc⟩ := H.out.at hlt
      have CN := noNumber_any (Px.pt zs i) wr
      by_cases hy : Px.Byte (Px.pt zs i)
      · rw [decide_eq_true hy] at CN
        have CN := Lib.hid CN
        have HY := Lib.hid hy
        clear hy
        generalize hq : Px.pt zs i = q at *
        have HQ := Lib.hid hq
        clear hq
        go_wp2_with fail
        refine CN.out.mono ?_
        rintro e w' ⟨rfl, rfl⟩
        go_wp2_with fail
        go_roundw
        case rel => exact ⟨i + 1, by omega, by go_num, fun j hj => by
          by_cases e : j = i
          · subst e; rw [HQ.out]; exact HY.out
          · exact HB.out j (by omega), trivial⟩
        case measure => simp [intOf]; omega
      · rw [decide_eq_false hy] at CN
        have CN := Lib.hid CN
        have NB := Lib.hid (show ¬ Px.Bytes zs from fun hb => hy (Px.pt_byte hb i))
        clear hy
        generalize hq : Px.pt zs i = q at *
        clear hq
        go_wp2_with fail
        refine CN.out.mono ?_
        rintro e w' ⟨rfl, rfl⟩
        go_wp2_with fail
        go_ret
        exact ⟨_, rfl, rfl, .inr ⟨by omega, NB.out⟩⟩
    · obtain rfl : i = n := by omega
      have YB := Lib.hid (take_bytes HB.out (by rw [H.out.1]; exact Nat.le_refl _))
      go_wp2_with fail
      go_ret
      exact ⟨_, rfl, rfl, .inl ⟨rfl, YB.out⟩⟩
theorem contains_yes (w : World) (a : Option Addr) (n c : Nat) (zs : List Int) (hn : n ≤ 16777216) (h : Ints w a n zs) (hb : ¬ Px.Bytes zs) : Calls Tryz.prog 149 #[.slice a n c, .func (.func 150) #[] #[]] w fun e w' => e = .returned (.bool true) ∧ w' = w := by
  have C := Lib.hid (index_any w a n c zs hn h)
  have HB := Lib.hid hb
  clear h hb
  go_enter Tryz.func149, Tryz.ntmps149
  go_wp2_with fail
  refine C.out.mono ?_
  rintro e w' ⟨r, rfl, rfl, h⟩
  have hr : 0 ≤ r := by
    rcases h with ⟨_, h⟩ | ⟨h, _⟩
    · exact absurd h HB.out
    · exact h
  have t : decide (0 ≤ r) = true := by simpa using hr
  clear h
  go_wp2_with fail
  go_ret
  exact ⟨rfl, rfl⟩
theorem contains_no (w : World) (a : Option Addr) (n c : Nat) (zs : List Int) (hn : n ≤ 16777216) (h : Ints w a n zs) (hb : Px.Bytes zs) : Calls Tryz.prog 149 #[.slice a n c, .func (.func 150) #[] #[]] w fun e w' => e = .returned (.bool false) ∧ w' = w := by
  have C := Lib.hid (index_any w a n c zs hn h)
  have HB := Lib.hid hb
  clear h hb
  go_enter Tryz.func149, Tryz.ntmps149
  go_wp2_with fail
  refine C.out.mono ?_
  rintro e w' ⟨r, rfl, rfl, h⟩
  obtain rfl : r = -1 := by
    rcases h with ⟨h, _⟩ | ⟨_, h⟩
    · exact h
    · exact absurd HB.out h
  clear h
  go_wp2_with fail
  go_ret
  exact ⟨rfl, rfl⟩
theorem cut_any (f v : Int) (w : World) : Calls Tryz.prog 154 #[.int .i64 f, .int .i64 v] w fun e w' => e = .returned (.int .i64 (if v < f then 0 else 255)) ∧ w' = w := by
  by_cases h : v < f
  · rw [if_pos h]
    have t : decide (v < f) = true := by simpa using h
    clear h
    go_enter Tryz.func154, Tryz.ntmps154
    go_wp2
    go_ret
    exact ⟨rfl, rfl⟩
  · rw [if_neg h]
    have t : decide (v < f) = false := by simpa using h
    clear h
    go_enter Tryz.func154, Tryz.ntmps154
    go_wp2
    go_ret
    exact ⟨rfl, rfl⟩
theorem level_any (lo hi v : Int) (h0 : Px.Byte lo) (h1 : Px.Byte hi) (hv : Px.Byte v) (h : lo < hi) (w : World) : Calls Tryz.prog 152 #[.int .i64 lo, .int .i64 hi, .int .i64 v] w fun e w' => e = .returned (.int .i64 (Px.level lo hi v)) ∧ w' = w := by
  obtain ⟨a0, a1⟩ := h0
  obtain ⟨b0, b1⟩ := h1
  obtain ⟨v0, v1⟩ := hv
  have HL := Lib.hid (show Px.level lo hi v = (255 * (min (max v lo) hi - lo) + (hi - lo) / 2) / (hi - lo) from rfl)
  have m1 : (if v < lo then lo else v) = max v lo := by omega
  have m2 : (if hi < max v lo then hi else max v lo) = min (max v lo) hi := by omega
  have l0 : 0 ≤ min (max v lo) hi - lo := by omega
  have l1 : min (max v lo) hi - lo ≤ 255 := by omega
  have q0 : 0 < hi - lo := by omega
  have hq := div_facts (p := 255 * (min (max v lo) hi - lo) + (hi - lo) / 2) (q := hi - lo) (by omega)
  have q1 : 0 ≤ (255 * (min (max v lo) hi - lo) + (hi - lo) / 2) / (hi - lo) := Int.ediv_nonneg (by omega) (by omega)
  have q2 : (255 * (min (max v lo) hi - lo) + (hi - lo) / 2) / (hi - lo) ≤ 255 * (min (max v lo) hi - lo) + (hi - lo) / 2 := Int.ediv_le_self _ (by omega)
  have u0 : 0 ≤ min (max v lo) hi := by omega
  have u1 : min (max v lo) hi ≤ 255 := by omega
  clear hq
  generalize Px.level lo hi v = r at *
  generalize min (max v lo) hi = u at *
  generalize max v lo = s at *
  go_enter Tryz.func152, Tryz.ntmps152
  go_wp2
  go_ret
  exact ⟨by rw [HL.out]; rfl, rfl⟩
end Go.Proofs.YtfcpbpfemmdklaaGreat.Pi

/- Curves: points that rise, lines between them. -/
namespace Go.Proofs.YtfcpbpfemmdklaaGreat.Pi
open Go.RowKit
set_option linter.unusedVariables false

def Rise (zs : List Int) (k : Nat) : Prop := ∀ m, 0 < m → m < k → Px.pt zs (2 * m - 2) < Px.pt zs (2 * m)
set_option maxRecDepth 100000 in
set_option maxHeartbeats 800000 in
theorem points_any (w : World) (a : Option Addr) (n c : Nat) (zs : List Int) (hn : n ≤ 16777216) (h : Ints w a n zs) (hnp : ¬ (n < 2 ∨ 32 < n ∨ n % 2 ≠ 0)) (b : Bool) (hb : b = true ↔ Px.Points zs) :
    Calls Tryz.prog 151 #[.slice a n c] w fun e w' => e = .returned (.bool b) ∧ ∃ q, w' = w.drewN q := by
  have H := Lib.hid h
  have HB := Lib.hid hb
  have HP := Lib.hid hnp
  have hn2 : ¬ n < 2 := fun e => hnp (.inl e)
  have hn32 : n ≤ 32 := by omega
  have t1 : decide ((n : Int) < 2) = false := by simp; omega
  have t2 : decide ((32 : Int) < n) = false := by simp; omega
  have t3 : (n : Int) % 2 = 0 := by omega
  clear h hb hnp hn2
  go_enter Tryz.func151, Tryz.ntmps151
  go_wp2_with fail
  clear t3
  go_loopw [3] (fun cnt wr => ∃ k : Nat, 0 < k ∧ 2 * k ≤ n ∧ cnt = .int .i64 ((2 * k : Nat) : Int) ∧ Rise zs k ∧ ∃ q, wr = w.drewN q) (fun cnt _ => n - (intOf cnt).toNat)
  case atStart => exact ⟨1, by omega, by have := HP.out; omega, rfl, fun m h1 h2 => by omega, 0, rfl⟩
  case round =>
    obtain ⟨k, k0, kn, rfl, hR, q, rfl⟩ := hrel
    have HR := Lib.hid hR
    clear hR
    by_cases hlt : 2 * k < n
    · obtain ⟨j, hj⟩ : ∃ j, 2 * k = j + 2 := ⟨2 * k - 2, by omega⟩
      obtain ⟨bb, off, rfl, hz, hc⟩ := H.out.at (i := j) (by omega)
      obtain ⟨bb', off', e', hz', hc'⟩ := H.out.at (i := j + 2) (by omega)
      cases e'
      have HJ := Lib.hid hj
      obtain ⟨i, hi⟩ : ∃ i, i = j + 2 := ⟨_, rfl⟩
      rw [hj] at hlt ⊢
      have hq : Rise zs (k + 1) ↔ Px.pt zs j < Px.pt zs (j + 2) := by
        constructor
        · intro h
          have := h k k0 (by omega)
          rwa [hj, show j + 2 - 2 = j by omega] at this
        · intro h m h1 h2
          by_cases e : m = k
          · subst e; rw [hj, show j + 2 - 2 = j by omega]; exact h
          · exact HR.out m h1 (by omega)
      have HQ := Lib.hid hq
      clear hq hj
      rw [← hi] at hc' hz' HQ HJ hlt ⊢
      have w0 : IntKind.i64.wrap ((i : Int) - 2) = (j : Int) := by rw [hi]; exact (wrap_i64 _ (by omega) (by omega)).trans (by omega)
      have HI := Lib.hid hi
      have hji : (j : Int) < n := by omega
      have hii : (i : Int) < n := by omega
      clear hi
      by_cases hlt2 : Px.pt zs j < Px.pt zs i
      · have t5 : decide (Px.pt zs i ≤ Px.pt zs j) = false := by simp; omega
        have R2 := Lib.hid (HQ.out.2 hlt2)
        clear hlt2
        generalize Px.pt zs i = zi at *
        generalize Px.pt zs j = zj at *
        go_wp2_with fail
        go_quiet (fail)
        go_wp2_with fail
        go_roundw
        case rel => exact ⟨k + 1, by omega, by have := HJ.out; have := HI.out; have := HP.out; omega, by have := HJ.out; have := HI.out; simp; omega, R2.out, q + nq, by simp⟩
        case measure => simp [intOf]; omega
      · have t5 : decide (Px.pt zs i ≤ Px.pt zs j) = true := by simp; omega
        have hbf : b = false := by
          cases hbb : b
          · rfl
          · exact absurd (HQ.out.1 (fun m h1 h2 => (HB.out.1 hbb).2.2.2 m h1 (by have := H.out.1; have := HJ.out; have := HI.out; omega))) hlt2
        subst hbf
        clear hlt2
        generalize Px.pt zs i = zi at *
        generalize Px.pt zs j = zj at *
        go_wp2_with fail
        go_quiet (fail)
        go_wp2_with fail
        go_ret
        exact ⟨rfl, q + nq, by simp⟩
    · have e : 2 * k = n := by omega
      have hbt : b = true := HB.out.2 ⟨by have := H.out.1; have := HP.out; omega, by have := H.out.1; omega, by have := H.out.1; have := HP.out; omega, fun m h1 h2 => HR.out m h1 (by have := H.out.1; omega)⟩
      subst hbt
      have t5 : decide (((2 * k : Nat) : Int) < (n : Int)) = false := by simp; omega
      go_wp2_with fail
      go_ret
      exact ⟨rfl, _, rfl⟩
theorem line_facts {x0 y0 x1 y1 v : Int} (hx0 : Px.Byte x0) (hy0 : Px.Byte y0) (hx1 : Px.Byte x1) (hy1 : Px.Byte y1) (hv : Px.Byte v) (h : x0 < x1) (h0 : x0 ≤ v) (h1 : v ≤ x1) :
    (-65025 ≤ (y1 - y0) * (v - x0) ∧ (y1 - y0) * (v - x0) ≤ 65025) ∧ (-255 ≤ ((y1 - y0) * (v - x0)).tdiv (x1 - x0) ∧ ((y1 - y0) * (v - x0)).tdiv (x1 - x0) ≤ 255) := by
  refine ⟨?_, ?_⟩
  · have k0 : 0 ≤ v - x0 := by omega
    have k1 : v - x0 ≤ 255 := by unfold Px.Byte at *; omega
    have a1 := Int.mul_le_mul_of_nonneg_right (show y1 - y0 ≤ 255 by unfold Px.Byte at *; omega) k0
    have a2 := Int.mul_le_mul_of_nonneg_right (show -255 ≤ y1 - y0 by unfold Px.Byte at *; omega) k0
    omega
  · have := Px.line_byte h h0 h1 hy0 hy1
    unfold Px.line at this
    unfold Px.Byte at *
    omega
set_option maxRecDepth 100000 in
set_option maxHeartbeats 800000 in
theorem line_any {x0 y0 x1 y1 v : Int} (hx0 : Px.Byte x0) (hy0 : Px.Byte y0) (hx1 : Px.Byte x1) (hy1 : Px.Byte y1) (hv : Px.Byte v) (h : x0 < x1) (h0 : x0 ≤ v) (h1 : v ≤ x1) (w : World) :
    Calls Tryz.prog 159 #[.agg #[.int .i64 x0, .int .i64 y0, .int .i64 x1, .int .i64 y1], .int .i64 v] w fun e w' => e = .returned (.int .i64 (Px.line x0 y0 x1 y1 v)) ∧ Keeps none' w w' := by
  obtain ⟨⟨p0, p1⟩, q0, q1⟩ := line_facts hx0 hy0 hx1 hy1 hv h h0 h1
  have HL := Lib.hid (show Px.line x0 y0 x1 y1 v = y0 + ((y1 - y0) * (v - x0)).tdiv (x1 - x0) from rfl)
  have F := Four.new w x0 y0 x1 y1
  have K := Lib.hid ((Keeps.refl none' w).alloc (.cells #[.int .i64 x0, .int .i64 y0, .int .i64 x1, .int .i64 y1] 139))
  have c0 := F.c0
  have c1 := F.c1
  have c2 := F.c2
  have c3 := F.c3
  obtain ⟨a0, a1⟩ := hx0
  obtain ⟨b0, b1⟩ := hy0
  obtain ⟨d0, d1⟩ := hx1
  obtain ⟨e0, e1⟩ := hy1
  obtain ⟨v0, v1⟩ := hv
  have hd : 0 < x1 - x0 := by omega
  generalize Px.line x0 y0 x1 y1 v = r at *
  have w1 : wrap64 ((y1 - y0) * (v - x0)) = (y1 - y0) * (v - x0) := by unfold wrap64; omega
  have w2 : wrap64 (((y1 - y0) * (v - x0)).tdiv (x1 - x0)) = ((y1 - y0) * (v - x0)).tdiv (x1 - x0) := by unfold wrap64; omega
  clear F h h0 h1
  go_enter Tryz.func159, Tryz.ntmps159
  go_wp2_with fail
  generalize w.alloc (.cells #[.int .i64 x0, .int .i64 y0, .int .i64 x1, .int .i64 y1] 139) = wa at *
  go_quiet (fail)
  go_wp2_with fail
  go_ret
  exact ⟨by rw [HL.out]; rfl, K.out.drewN nq⟩
end Go.Proofs.YtfcpbpfemmdklaaGreat.Pi

/- A curve's height, by the program. -/
namespace Go.Proofs.YtfcpbpfemmdklaaGreat.Pi
open Go.RowKit
set_option linter.unusedVariables false

theorem arr_at (b off l c : Nat) (h : l = 4) (w : World) : (Instr.arrayAt 139 (.slice (some ⟨b, off, none⟩) l c)).run Tryz.prog w = .ok (.pointer (some ⟨b, off, none⟩)) w := by
  subst h
  simp [Instr.arrayAt, run_underlying Tryz.underlying139, Sem.run_bind, Sem.run_pure]
/-- A curve's height was told. -/
def Told (zs : List Int) (v : Int) (w : World) (e : Ending) (w' : World) : Prop := ∃ r, Px.CurveIs zs v r ∧ e = .returned (.int .i64 r) ∧ Keeps none' w w'
set_option maxRecDepth 100000 in
set_option maxHeartbeats 1600000 in
theorem onCurve_told (w : World) (a : Option Addr) (n c : Nat) (zs : List Int) (hnc : n ≤ c) (h : Ints w a n zs) (hp : Px.Points zs) (hb : Px.Bytes zs) (v : Int) (hv : Px.Byte v) :
    Calls Tryz.prog 153 #[.slice a n c, .int .i64 v] w (Told zs v w) := by
  have hn2 : 2 ≤ n := by rw [← h.1]; exact hp.1
  have hn32 : n ≤ 32 := by rw [← h.1]; exact hp.2.1
  have hne : n % 2 = 0 := by rw [← h.1]; exact hp.2.2.1
  have H := Lib.hid h
  have HP := Lib.hid hp
  have HB := Lib.hid hb
  obtain ⟨b, off, rfl, -, hc0⟩ := h.at (i := 0) (by omega)
  obtain ⟨b', off', e', -, hc1⟩ := h.at (i := 1) (by omega)
  cases e'
  rw [Nat.add_zero] at hc0
  have hn0 : 0 < n := by omega
  have hn1 : 1 < n := by omega
  have HV := Lib.hid hv
  obtain ⟨v0, v1⟩ := hv
  have z0 := Px.pt_byte hb 0
  have NE := Lib.hid hne
  clear h hp hb hne
  by_cases h0 : v ≤ Px.pt zs 0
  · have A := Lib.hid (show Px.CurveIs zs v (Px.pt zs 1) from .inl ⟨h0, rfl⟩)
    have t : decide (v ≤ Px.pt zs 0) = true := by simpa using h0
    clear h0 z0
    generalize Px.pt zs 0 = p0 at *
    generalize Px.pt zs 1 = p1 at *
    go_enter Tryz.func153, Tryz.ntmps153
    go_wp2_with fail
    go_ret
    exact ⟨_, A.out, rfl, Keeps.refl _ _⟩
  · have t : decide (v ≤ Px.pt zs 0) = false := by simpa using h0
    have H0 := Lib.hid (show Px.pt zs 0 < v by omega)
    clear h0 z0
    generalize Px.pt zs 1 = p1 at *
    generalize hp0 : Px.pt zs 0 = p0 at *
    have HP0 := Lib.hid hp0
    clear hp0
    go_enter Tryz.func153, Tryz.ntmps153
    go_wp2_with fail
    clear t hc0 hc1
    go_loopw [5] (fun cnt wr => ∃ k : Nat, 0 < k ∧ 2 * k ≤ n ∧ cnt = .int .i64 ((2 * k : Nat) : Int) ∧ (∀ j, j < k → Px.pt zs (2 * j) < v) ∧ wr = w) (fun cnt _ => n - (intOf cnt).toNat)
    case atStart => exact ⟨1, by omega, by omega, rfl, fun j hj => by
      obtain rfl : j = 0 := by omega
      show Px.pt zs 0 < v
      rw [HP0.out]
      exact H0.out, rfl⟩
    case round =>
      obtain ⟨k, k0, kn, rfl, hA, rfl⟩ := hrel
      have HA := Lib.hid hA
      clear hA
      by_cases hlt : 2 * k < n
      · obtain ⟨bb, oo, e', hz, hc⟩ := H.out.at (i := 2 * k) hlt
        cases e'
        by_cases hvk : v ≤ Px.pt zs (2 * k)
        · have t : decide (v ≤ Px.pt zs (2 * k)) = true := by simpa using hvk
          obtain ⟨j, hj⟩ : ∃ j, 2 * k = j + 2 := ⟨2 * k - 2, by omega⟩
          have hj4 : j + 4 ≤ n := by have := NE.out; omega
          obtain ⟨bb, oo, e', -, d0⟩ := H.out.at (i := j) (by omega)
          cases e'
          obtain ⟨bb, oo, e', -, d1⟩ := H.out.at (i := j + 1) (by omega)
          cases e'
          obtain ⟨bb, oo, e', -, d2⟩ := H.out.at (i := j + 2) (by omega)
          cases e'
          obtain ⟨bb, oo, e', -, d3⟩ := H.out.at (i := j + 3) (by omega)
          cases e'
          have hr := HP.out.2.2.2 k k0 (by rw [H.out.1]; exact hlt)
          have hl := HA.out (k - 1) (by omega)
          rw [show 2 * (k - 1) = j by omega] at hl
          rw [hj, show j + 2 - 2 = j by omega] at hr
          have A := Lib.hid (show Px.CurveIs zs v (Px.line (Px.pt zs j) (Px.pt zs (j + 1)) (Px.pt zs (j + 2)) (Px.pt zs (j + 3)) v) from .inr (.inl ⟨k, k0, by rw [H.out.1]; exact hlt, HA.out, hvk, by rw [hj, show j + 2 - 2 = j by omega, show j + 2 - 1 = j + 1 by omega]⟩))
          rw [hj] at hvk hc t hlt ⊢
          have CL := Lib.hid (fun w => line_any (Px.pt_byte HB.out j) (Px.pt_byte HB.out (j + 1)) (Px.pt_byte HB.out (j + 2)) (Px.pt_byte HB.out (j + 3)) HV.out hr (by omega) hvk w)
          have HJ := Lib.hid hj
          clear hr hl hvk hj hz
          generalize Px.line (Px.pt zs j) (Px.pt zs (j + 1)) (Px.pt zs (j + 2)) (Px.pt zs (j + 3)) v = r at *
          generalize Px.pt zs j = y0 at *
          generalize Px.pt zs (j + 1) = y1 at *
          generalize Px.pt zs (j + 2) = y2 at *
          generalize Px.pt zs (j + 3) = y3 at *
          have t5 : decide (((j + 2 : Nat) : Int) < (n : Int)) = true := by simp; omega
          rw [← Nat.add_assoc] at d1 d2 d3
          have ha := arr_at b (off + j) (j + 2 + 2 - j) (c - j) (by omega) wr
          go_wp2_with fail
          refine (CL.out _).mono ?_
          rintro e w2 ⟨rfl, hk⟩
          have HK := Lib.hid hk
          clear hk
          go_wp2_with fail
          go_ret
          exact ⟨_, A.out, rfl, HK.out⟩
        · have t : decide (v ≤ Px.pt zs (2 * k)) = false := by simpa using hvk
          have HV2 := Lib.hid (show Px.pt zs (2 * k) < v by omega)
          obtain ⟨i, hi⟩ : ∃ i, i = 2 * k := ⟨_, rfl⟩
          rw [← hi] at hc t hlt HV2 ⊢
          have HI := Lib.hid hi
          clear hi hvk hz
          generalize hq : Px.pt zs i = q at *
          have HQ := Lib.hid hq
          clear hq
          go_wp2_with fail
          go_roundw
          case rel => exact ⟨k + 1, by omega, by have := HI.out; have := NE.out; omega, by have := HI.out; simp; omega, fun m hm => by
            by_cases e : m = k
            · subst e; rw [← HI.out, HQ.out]; exact HV2.out
            · exact HA.out m (by omega), trivial⟩
          case measure => simp [intOf]; omega
      · have hn : n = 2 * k := by have := NE.out; omega
        obtain ⟨bb, oo, e', hz, hc⟩ := H.out.at (i := n - 1) (by omega)
        cases e'
        have A := Lib.hid (show Px.CurveIs zs v (Px.pt zs (n - 1)) from .inr (.inr ⟨fun j hj => HA.out j (by rw [H.out.1] at hj; omega), by rw [H.out.1]⟩))
        have t : decide (((2 * k : Nat) : Int) < (n : Int)) = false := by simp; omega
        obtain ⟨m, hm⟩ : ∃ m, n = m + 1 := ⟨n - 1, by omega⟩
        have hm1 : n - 1 = m := by omega
        rw [hm1] at hc hz A
        have hw : wrap64 ((n : Int) - 1) = (m : Int) := by unfold wrap64; omega
        have hmi : ((n : Int) - 1) = (m : Int) := by omega
        have hmn : m < n := by omega
        clear hm hm1 hn hz
        generalize Px.pt zs m = r at *
        go_wp2_with fail
        go_ret
        exact ⟨_, A.out, rfl, Keeps.refl _ _⟩
end Go.Proofs.YtfcpbpfemmdklaaGreat.Pi

/- A curve's height, by the document. -/
namespace Go.Proofs.YtfcpbpfemmdklaaGreat.Pi
open Go.RowKit
set_option linter.unusedVariables false

set_option maxRecDepth 100000 in
set_option maxHeartbeats 1600000 in
theorem docCurve_told (w : World) (a : Option Addr) (n c : Nat) (zs : List Int) (hnc : n ≤ c) (h : Ints w a n zs) (hp : Px.Points zs) (hb : Px.Bytes zs) (v : Int) (hv : Px.Byte v) :
    Calls Tryz.prog 94 #[.slice a n c, .int .i64 v] w (Told zs v w) := by
  have hn2 : 2 ≤ n := by rw [← h.1]; exact hp.1
  have hn32 : n ≤ 32 := by rw [← h.1]; exact hp.2.1
  have hne : n % 2 = 0 := by rw [← h.1]; exact hp.2.2.1
  have H := Lib.hid h
  have HP := Lib.hid hp
  have HB := Lib.hid hb
  obtain ⟨b, off, rfl, -, hc0⟩ := h.at (i := 0) (by omega)
  obtain ⟨b', off', e', -, hc1⟩ := h.at (i := 1) (by omega)
  cases e'
  rw [Nat.add_zero] at hc0
  have hn0 : 0 < n := by omega
  have hn1 : 1 < n := by omega
  have HV := Lib.hid hv
  obtain ⟨v0, v1⟩ := hv
  have z0 := Px.pt_byte hb 0
  have NE := Lib.hid hne
  clear h hp hb hne
  by_cases h0 : v ≤ Px.pt zs 0
  · have A := Lib.hid (show Px.CurveIs zs v (Px.pt zs 1) from .inl ⟨h0, rfl⟩)
    have t : decide (v ≤ Px.pt zs 0) = true := by simpa using h0
    clear h0 z0
    generalize Px.pt zs 0 = p0 at *
    generalize Px.pt zs 1 = p1 at *
    go_enter Tryz.func94, Tryz.ntmps94
    go_wp2_with fail
    go_ret
    exact ⟨_, A.out, rfl, Keeps.refl _ _⟩
  · have t : decide (v ≤ Px.pt zs 0) = false := by simpa using h0
    have H0 := Lib.hid (show Px.pt zs 0 < v by omega)
    clear h0 z0
    generalize Px.pt zs 1 = p1 at *
    generalize hp0 : Px.pt zs 0 = p0 at *
    have HP0 := Lib.hid hp0
    clear hp0
    go_enter Tryz.func94, Tryz.ntmps94
    go_wp2_with fail
    clear t hc0 hc1
    go_loopw [5] (fun cnt wr => ∃ k : Nat, 0 < k ∧ 2 * k ≤ n ∧ cnt = .int .i64 ((2 * k : Nat) : Int) ∧ (∀ j, j < k → Px.pt zs (2 * j) ≤ v) ∧ wr = w) (fun cnt _ => n - (intOf cnt).toNat)
    case atStart => exact ⟨1, by omega, by omega, rfl, fun j hj => by
      obtain rfl : j = 0 := by omega
      show Px.pt zs 0 ≤ v
      rw [HP0.out]
      have := H0.out; omega, rfl⟩
    case round =>
      obtain ⟨k, k0, kn, rfl, hA, rfl⟩ := hrel
      have HA := Lib.hid hA
      clear hA
      by_cases hlt : 2 * k < n
      · obtain ⟨bb, oo, e', hz, hc⟩ := H.out.at (i := 2 * k) hlt
        cases e'
        by_cases hvk : v < Px.pt zs (2 * k)
        · have t : decide (v < Px.pt zs (2 * k)) = true := by simpa using hvk
          obtain ⟨j, hj⟩ : ∃ j, 2 * k = j + 2 := ⟨2 * k - 2, by omega⟩
          have hj4 : j + 4 ≤ n := by have := NE.out; omega
          obtain ⟨bb, oo, e', -, d0⟩ := H.out.at (i := j) (by omega)
          cases e'
          obtain ⟨bb, oo, e', -, d1⟩ := H.out.at (i := j + 1) (by omega)
          cases e'
          obtain ⟨bb, oo, e', -, d2⟩ := H.out.at (i := j + 2) (by omega)
          cases e'
          obtain ⟨bb, oo, e', -, d3⟩ := H.out.at (i := j + 3) (by omega)
          cases e'
          have hr := HP.out.2.2.2 k k0 (by rw [H.out.1]; exact hlt)
          have hl := HA.out (k - 1) (by omega)
          rw [show 2 * (k - 1) = j by omega] at hl
          rw [hj, show j + 2 - 2 = j by omega] at hr
          have A := Lib.hid (Px.curve_doc HP.out (show Px.CurveDoc zs v (Px.line (Px.pt zs j) (Px.pt zs (j + 1)) (Px.pt zs (j + 2)) (Px.pt zs (j + 3)) v) from .inr (.inl ⟨by rw [HP0.out]; exact H0.out, k, k0, by rw [H.out.1]; exact hlt, HA.out, hvk, by rw [hj, show j + 2 - 2 = j by omega, show j + 2 - 1 = j + 1 by omega]⟩)))
          rw [hj] at hvk hc t hlt ⊢
          obtain ⟨⟨f0, f1⟩, g0, g1⟩ := line_facts (Px.pt_byte HB.out j) (Px.pt_byte HB.out (j + 1)) (Px.pt_byte HB.out (j + 2)) (Px.pt_byte HB.out (j + 3)) HV.out hr hl (Int.le_of_lt hvk)
          have HLN := Lib.hid (show Px.line (Px.pt zs j) (Px.pt zs (j + 1)) (Px.pt zs (j + 2)) (Px.pt zs (j + 3)) v = Px.pt zs (j + 1) + ((Px.pt zs (j + 3) - Px.pt zs (j + 1)) * (v - Px.pt zs j)).tdiv (Px.pt zs (j + 2) - Px.pt zs j) from rfl)
          obtain ⟨b00, b01⟩ := Px.pt_byte HB.out j
          obtain ⟨b10, b11⟩ := Px.pt_byte HB.out (j + 1)
          obtain ⟨b20, b21⟩ := Px.pt_byte HB.out (j + 2)
          obtain ⟨b30, b31⟩ := Px.pt_byte HB.out (j + 3)
          have hd : 0 < Px.pt zs (j + 2) - Px.pt zs j := by omega
          have HJ := Lib.hid hj
          clear hj hz
          generalize Px.line (Px.pt zs j) (Px.pt zs (j + 1)) (Px.pt zs (j + 2)) (Px.pt zs (j + 3)) v = r at *
          generalize Px.pt zs j = y0 at *
          generalize Px.pt zs (j + 1) = y1 at *
          generalize Px.pt zs (j + 2) = y2 at *
          generalize Px.pt zs (j + 3) = y3 at *
          obtain ⟨i, hi⟩ : ∃ i, i = j + 2 := ⟨_, rfl⟩
          obtain ⟨i1, hi1⟩ : ∃ i1, i1 = j + 1 := ⟨_, rfl⟩
          obtain ⟨i3, hi3⟩ : ∃ i3, i3 = j + 3 := ⟨_, rfl⟩
          rw [← hi] at d2 hc hlt ⊢
          rw [← hi1] at d1
          rw [← hi3] at d3
          have a1 : IntKind.i64.wrap ((i : Int) - 1) = (i1 : Int) := (wrap_i64 _ (by omega) (by omega)).trans (by omega)
          have a2 : IntKind.i64.wrap ((i : Int) - 2) = (j : Int) := (wrap_i64 _ (by omega) (by omega)).trans (by omega)
          have a3 : IntKind.i64.wrap ((i : Int) + 1) = (i3 : Int) := (wrap_i64 _ (by omega) (by omega)).trans (by omega)
          have s1 : IntKind.i64.wrap (y3 - y1) = y3 - y1 := wrap_i64 _ (by omega) (by omega)
          have s2 : IntKind.i64.wrap (v - y0) = v - y0 := wrap_i64 _ (by omega) (by omega)
          have s3 : IntKind.i64.wrap ((y3 - y1) * (v - y0)) = (y3 - y1) * (v - y0) := wrap_i64 _ (by omega) (by omega)
          have s4 : IntKind.i64.wrap (y2 - y0) = y2 - y0 := wrap_i64 _ (by omega) (by omega)
          have s5 : IntKind.i64.wrap (((y3 - y1) * (v - y0)).tdiv (y2 - y0)) = ((y3 - y1) * (v - y0)).tdiv (y2 - y0) := wrap_i64 _ (by omega) (by omega)
          have s6 : IntKind.i64.wrap (y1 + ((y3 - y1) * (v - y0)).tdiv (y2 - y0)) = y1 + ((y3 - y1) * (v - y0)).tdiv (y2 - y0) := wrap_i64 _ (by omega) (by omega)
          have k1 : (i : Int) < n := by omega
          have k2 : (i1 : Int) < n := by omega
          have k3 : (i3 : Int) < n := by omega
          have k4 : (j : Int) < n := by omega
          have nz : (y2 - y0 == 0) = false := by simp; omega
          clear hi hi1 hi3 hvk hr hl
          go_wp2_with fail
          go_quiet (fail)
          go_wp2_with fail
          go_ret
          exact ⟨_, A.out, by rw [HLN.out]; rfl, (Keeps.refl _ _).drewN _⟩
        · have t : decide (v < Px.pt zs (2 * k)) = false := by simpa using hvk
          have HV2 := Lib.hid (show Px.pt zs (2 * k) ≤ v by omega)
          obtain ⟨i, hi⟩ : ∃ i, i = 2 * k := ⟨_, rfl⟩
          rw [← hi] at hc t hlt HV2 ⊢
          have HI := Lib.hid hi
          clear hi hvk hz
          generalize hq : Px.pt zs i = q at *
          have HQ := Lib.hid hq
          clear hq
          go_wp2_with fail
          go_roundw
          case rel => exact ⟨k + 1, by omega, by have := HI.out; have := NE.out; omega, by have := HI.out; simp; omega, fun m hm => by
            by_cases e : m = k
            · subst e; rw [← HI.out, HQ.out]; exact HV2.out
            · exact HA.out m (by omega), trivial⟩
          case measure => simp [intOf]; omega
      · have hn : n = 2 * k := by have := NE.out; omega
        obtain ⟨bb, oo, e', hz, hc⟩ := H.out.at (i := n - 1) (by omega)
        cases e'
        have A := Lib.hid (Px.curve_doc HP.out (show Px.CurveDoc zs v (Px.pt zs (n - 1)) from .inr (.inr ⟨by rw [HP0.out]; exact H0.out, fun j hj => HA.out j (by rw [H.out.1] at hj; omega), by rw [H.out.1]⟩)))
        have t : decide (((2 * k : Nat) : Int) < (n : Int)) = false := by simp; omega
        obtain ⟨m, hm⟩ : ∃ m, n = m + 1 := ⟨n - 1, by omega⟩
        have hm1 : n - 1 = m := by omega
        rw [hm1] at hc hz A
        have hw : wrap64 ((n : Int) - 1) = (m : Int) := by unfold wrap64; omega
        have hmi : ((n : Int) - 1) = (m : Int) := by omega
        have hmn : m < n := by omega
        clear hm hm1 hn hz
        generalize Px.pt zs m = r at *
        go_wp2_with fail
        go_ret
        exact ⟨_, A.out, rfl, Keeps.refl _ _⟩
end Go.Proofs.YtfcpbpfemmdklaaGreat.Pi

/- Which params make a table; what it has. -/
namespace Go.Proofs.YtfcpbpfemmdklaaGreat.Pi
open Go.RowKit
set_option linter.unusedVariables false

theorem onCurve_any (w : World) (a : Option Addr) (n c : Nat) (zs : List Int) (hnc : n ≤ c) (h : Ints w a n zs) (hp : Px.Points zs) (hb : Px.Bytes zs) (v : Int) (hv : Px.Byte v) :
    Calls Tryz.prog 153 #[.slice a n c, .int .i64 v] w fun e w' => e = .returned (.int .i64 (Px.curve zs v)) ∧ Keeps none' w w' :=
  (onCurve_told w a n c zs hnc h hp hb v hv).mono (fun _ _ ⟨r, h1, h2, h3⟩ => ⟨by rw [Px.curve_eq hp h1]; exact h2, h3⟩)
theorem docCurve_any (w : World) (a : Option Addr) (n c : Nat) (zs : List Int) (hnc : n ≤ c) (h : Ints w a n zs) (hp : Px.Points zs) (hb : Px.Bytes zs) (v : Int) (hv : Px.Byte v) :
    Calls Tryz.prog 94 #[.slice a n c, .int .i64 v] w fun e w' => e = .returned (.int .i64 (Px.curve zs v)) ∧ Keeps none' w w' :=
  (docCurve_told w a n c zs hnc h hp hb v hv).mono (fun _ _ ⟨r, h1, h2, h3⟩ => ⟨by rw [Px.curve_eq hp h1]; exact h2, h3⟩)
theorem points_no (w : World) (a : Option Addr) (n c : Nat) (hn : n ≤ 16777216) (h : n < 2 ∨ 32 < n ∨ n % 2 ≠ 0) : Calls Tryz.prog 151 #[.slice a n c] w fun e w' => e = .returned (.bool false) ∧ w' = w := by
  by_cases h0 : n < 2
  · have t1 : decide ((n : Int) < 2) = true := by simp; omega
    go_enter Tryz.func151, Tryz.ntmps151
    go_wp2_with fail
    go_ret
    exact ⟨rfl, rfl⟩
  · have t1 : decide ((n : Int) < 2) = false := by simp; omega
    by_cases h1 : 32 < n
    · have t2 : decide ((32 : Int) < n) = true := by simp; omega
      clear h
      go_enter Tryz.func151, Tryz.ntmps151
      go_wp2_with fail
      go_ret
      exact ⟨rfl, rfl⟩
    · have t2 : decide ((32 : Int) < n) = false := by simp; omega
      have t3 : (n : Int) % 2 = 1 := by omega
      clear h h0 h1
      go_enter Tryz.func151, Tryz.ntmps151
      go_wp2_with fail
      go_ret
      exact ⟨rfl, rfl⟩
theorem fits_bad (w : World) (a : Option Addr) (n c : Nat) (zs : List Int) (hn : n ≤ 16777216) (h : Ints w a n zs) (kind : Int) (hb : ¬ Px.Bytes zs) : Calls Tryz.prog 138 #[.int .i64 kind, .slice a n c] w fun e w' => e = .returned (.bool false) ∧ Keeps none' w w' := by
  have C := Lib.hid (contains_yes w a n c zs hn h hb)
  clear h hb
  go_enter Tryz.func138, Tryz.ntmps138
  go_wp2_with fail
  refine C.out.mono ?_
  rintro e w' ⟨rfl, rfl⟩
  go_wp2_with fail
  go_ret
  exact ⟨rfl, Keeps.refl _ _⟩
theorem fits_levels_no (w : World) (a : Option Addr) (n c : Nat) (zs : List Int) (hn : n ≤ 16777216) (h : Ints w a n zs) (hb : Px.Bytes zs) (h2 : n ≠ 2) : Calls Tryz.prog 138 #[.int .i64 0, .slice a n c] w fun e w' => e = .returned (.bool false) ∧ Keeps none' w w' := by
  have C := Lib.hid (contains_no w a n c zs hn h hb)
  have t : ((n : Int) == 2) = false := by simp; omega
  clear h hb
  go_enter Tryz.func138, Tryz.ntmps138
  go_wp2_with fail
  refine C.out.mono ?_
  rintro e w' ⟨rfl, rfl⟩
  go_wp2_with fail
  go_quiet (fail)
  go_wp2_with fail
  go_ret
  exact ⟨rfl, (Keeps.refl _ _).drewN _⟩
theorem fits_levels (w : World) (a : Option Addr) (n c : Nat) (zs : List Int) (hn : n ≤ 16777216) (h : Ints w a n zs) (hb : Px.Bytes zs) (h2 : n = 2) : Calls Tryz.prog 138 #[.int .i64 0, .slice a n c] w fun e w' => e = .returned (.bool (decide (Px.pt zs 0 < Px.pt zs 1))) ∧ Keeps none' w w' := by
  subst h2
  have C := Lib.hid (contains_no w a 2 c zs hn h hb)
  obtain ⟨b, off, rfl, -, hc0⟩ := h.at (i := 0) (by omega)
  obtain ⟨b', off', e', -, hc1⟩ := h.at (i := 1) (by omega)
  cases e'
  rw [Nat.add_zero] at hc0
  clear h hb
  generalize Px.pt zs 0 = p0 at *
  generalize Px.pt zs 1 = p1 at *
  go_enter Tryz.func138, Tryz.ntmps138
  go_wp2_with fail
  refine C.out.mono ?_
  rintro e w' ⟨rfl, rfl⟩
  go_wp2_with fail
  go_quiet (fail)
  go_wp2_with fail
  go_ret
  exact ⟨rfl, (Keeps.refl _ _).drewN _⟩
theorem fits_points (w : World) (a : Option Addr) (n c : Nat) (zs : List Int) (hn : n ≤ 16777216) (h : Ints w a n zs) (hb : Px.Bytes zs) (b : Bool) (hbp : b = true ↔ Px.Points zs) : Calls Tryz.prog 138 #[.int .i64 1, .slice a n c] w fun e w' => e = .returned (.bool b) ∧ Keeps none' w w' := by
  have C := Lib.hid (contains_no w a n c zs hn h hb)
  have D : Calls Tryz.prog 151 #[.slice a n c] w fun e w' => e = .returned (.bool b) ∧ ∃ q, w' = w.drewN q := by
    by_cases hq : n < 2 ∨ 32 < n ∨ n % 2 ≠ 0
    · have hf : b = false := by
        cases hb2 : b
        · rfl
        · have := hbp.1 hb2
          have e := h.1
          exact absurd hq (by have a1 := this.1; have a2 := this.2.1; have a3 := this.2.2.1; omega)
      rw [hf]
      exact (points_no w a n c hn hq).mono (fun _ _ ⟨h1, h2⟩ => ⟨h1, 0, h2⟩)
    · exact points_any w a n c zs hn h hq b hbp
  have D := Lib.hid D
  clear h hb hbp
  go_enter Tryz.func138, Tryz.ntmps138
  go_wp2_with fail
  refine C.out.mono ?_
  rintro e w' ⟨rfl, rfl⟩
  go_wp2_with fail
  refine D.out.mono ?_
  rintro e w2 ⟨rfl, q, rfl⟩
  go_wp2_with fail
  go_ret
  exact ⟨rfl, (Keeps.refl _ _).drewN _⟩
theorem fits_invert (w : World) (a : Option Addr) (n c : Nat) (zs : List Int) (hn : n ≤ 16777216) (h : Ints w a n zs) (hb : Px.Bytes zs) : Calls Tryz.prog 138 #[.int .i64 2, .slice a n c] w fun e w' => e = .returned (.bool (decide (n = 0))) ∧ Keeps none' w w' := by
  have C := Lib.hid (contains_no w a n c zs hn h hb)
  clear h hb
  by_cases h0 : n = 0
  · subst h0
    go_enter Tryz.func138, Tryz.ntmps138
    go_wp2_with fail
    refine C.out.mono ?_
    rintro e w' ⟨rfl, rfl⟩
    go_wp2_with fail
    go_ret
    exact ⟨rfl, Keeps.refl _ _⟩
  · rw [decide_eq_false h0]
    have t : ((n : Int) == 0) = false := by simp; omega
    go_enter Tryz.func138, Tryz.ntmps138
    go_wp2_with fail
    refine C.out.mono ?_
    rintro e w' ⟨rfl, rfl⟩
    go_wp2_with fail
    go_ret
    exact ⟨rfl, Keeps.refl _ _⟩
theorem fits_threshold (w : World) (a : Option Addr) (n c : Nat) (zs : List Int) (hn : n ≤ 16777216) (h : Ints w a n zs) (hb : Px.Bytes zs) : Calls Tryz.prog 138 #[.int .i64 3, .slice a n c] w fun e w' => e = .returned (.bool (decide (n = 1))) ∧ Keeps none' w w' := by
  have C := Lib.hid (contains_no w a n c zs hn h hb)
  clear h hb
  by_cases h0 : n = 1
  · subst h0
    go_enter Tryz.func138, Tryz.ntmps138
    go_wp2_with fail
    refine C.out.mono ?_
    rintro e w' ⟨rfl, rfl⟩
    go_wp2_with fail
    go_ret
    exact ⟨rfl, Keeps.refl _ _⟩
  · rw [decide_eq_false h0]
    have t : ((n : Int) == 1) = false := by simp; omega
    go_enter Tryz.func138, Tryz.ntmps138
    go_wp2_with fail
    refine C.out.mono ?_
    rintro e w' ⟨rfl, rfl⟩
    go_wp2_with fail
    go_ret
    exact ⟨rfl, Keeps.refl _ _⟩
theorem fits_other (w : World) (a : Option Addr) (n c : Nat) (zs : List Int) (hn : n ≤ 16777216) (h : Ints w a n zs) (kind : Int) (hk : ¬ (0 ≤ kind ∧ kind ≤ 3)) (hb : Px.Bytes zs) : Calls Tryz.prog 138 #[.int .i64 kind, .slice a n c] w fun e w' => e = .returned (.bool false) ∧ Keeps none' w w' := by
  have C := Lib.hid (contains_no w a n c zs hn h hb)
  have t0 : (kind == 0) = false := by simp; omega
  have t1 : (kind == 1) = false := by simp; omega
  have t2 : (kind == 2) = false := by simp; omega
  have t3 : (kind == 3) = false := by simp; omega
  clear h hb hk
  go_enter Tryz.func138, Tryz.ntmps138
  go_wp2_with fail
  refine C.out.mono ?_
  rintro e w' ⟨rfl, rfl⟩
  go_wp2_with fail
  go_ret
  exact ⟨rfl, Keeps.refl _ _⟩
theorem fits_any (w : World) (a : Option Addr) (n c : Nat) (zs : List Int) (hn : n ≤ 16777216) (h : Ints w a n zs) (kind : Int) (b : Bool) (hb : b = true ↔ Px.Fits kind zs) : Calls Tryz.prog 138 #[.int .i64 kind, .slice a n c] w fun e w' => e = .returned (.bool b) ∧ Keeps none' w w' := by
  have hl := h.1
  by_cases hB : Px.Bytes zs
  · by_cases hk : 0 ≤ kind ∧ kind ≤ 3
    · have hc : kind = 0 ∨ kind = 1 ∨ kind = 2 ∨ kind = 3 := by omega
      rcases hc with rfl | rfl | rfl | rfl
      · by_cases h2 : n = 2
        · have e : decide (Px.pt zs 0 < Px.pt zs 1) = b := by
            rw [Bool.eq_iff_iff, hb, decide_eq_true_iff]
            exact ⟨fun hh => ⟨hB, .inl ⟨rfl, by omega, hh⟩⟩, fun ⟨_, hh⟩ => by rcases hh with ⟨_, _, h⟩ | ⟨h, _⟩ | ⟨h, _⟩ | ⟨h, _⟩ <;> first | exact h | (cases h)⟩
          rw [← e]
          exact fits_levels w a n c zs hn h hB h2
        · have e : b = false := by
            cases hb2 : b
            · rfl
            · obtain ⟨_, ⟨_, q, _⟩ | ⟨q, _⟩ | ⟨q, _⟩ | ⟨q, _⟩⟩ := hb.1 hb2
              · omega
              all_goals cases q
          rw [e]
          exact fits_levels_no w a n c zs hn h hB h2
      · exact fits_points w a n c zs hn h hB b (hb.trans ⟨fun ⟨_, hh⟩ => by rcases hh with ⟨q, _⟩ | ⟨_, q⟩ | ⟨q, _⟩ | ⟨q, _⟩ <;> first | exact q | (cases q), fun q => ⟨hB, .inr (.inl ⟨rfl, q⟩)⟩⟩)
      · have e : decide (n = 0) = b := by
          rw [Bool.eq_iff_iff, hb, decide_eq_true_iff]
          exact ⟨fun hh => ⟨hB, .inr (.inr (.inl ⟨rfl, by omega⟩))⟩, fun ⟨_, hh⟩ => by rcases hh with ⟨q, _⟩ | ⟨q, _⟩ | ⟨_, q⟩ | ⟨q, _⟩ <;> first | omega | (cases q)⟩
        rw [← e]
        exact fits_invert w a n c zs hn h hB
      · have e : decide (n = 1) = b := by
          rw [Bool.eq_iff_iff, hb, decide_eq_true_iff]
          exact ⟨fun hh => ⟨hB, .inr (.inr (.inr ⟨rfl, by omega⟩))⟩, fun ⟨_, hh⟩ => by rcases hh with ⟨q, _⟩ | ⟨q, _⟩ | ⟨q, _⟩ | ⟨_, q⟩ <;> first | omega | (cases q)⟩
        rw [← e]
        exact fits_threshold w a n c zs hn h hB
    · have e : b = false := by
        cases hb2 : b
        · rfl
        · obtain ⟨_, ⟨q, _⟩ | ⟨q, _⟩ | ⟨q, _⟩ | ⟨q, _⟩⟩ := hb.1 hb2 <;> omega
      rw [e]
      exact fits_other w a n c zs hn h kind hk hB
  · have e : b = false := by
      cases hb2 : b
      · rfl
      · exact absurd (hb.1 hb2).1 hB
    rw [e]
    exact fits_bad w a n c zs hn h kind hB
end Go.Proofs.YtfcpbpfemmdklaaGreat.Pi

/- Tables, by the program. -/
namespace Go.Proofs.YtfcpbpfemmdklaaGreat.Pi
open Go.RowKit
set_option linter.unusedVariables false

theorem repl_levels (w : World) (a : Option Addr) (n c : Nat) (zs : List Int) (hnc : n ≤ c) (h : Ints w a n zs) (v : Int) (hv : Px.Byte v) (hf : Px.Fits 0 zs) : Calls Tryz.prog 139 #[.int .i64 0, .slice a n c, .int .i64 v] w fun e w' => e = .returned (.int .i64 (Px.repl 0 zs v)) ∧ Keeps none' w w' := by
  obtain ⟨hB, ⟨_, hl, hlt⟩ | ⟨q, _⟩ | ⟨q, _⟩ | ⟨q, _⟩⟩ := hf
  · have C := Lib.hid (fun w => level_any (Px.pt zs 0) (Px.pt zs 1) v (Px.pt_byte hB 0) (Px.pt_byte hB 1) hv hlt w)
    rw [show Px.repl 0 zs v = Px.level (Px.pt zs 0) (Px.pt zs 1) v from rfl]
    obtain rfl : n = 2 := by rw [← h.1]; exact hl
    obtain ⟨b, off, rfl, -, hc0⟩ := h.at (i := 0) (by omega)
    obtain ⟨b', off', e', -, hc1⟩ := h.at (i := 1) (by omega)
    cases e'
    rw [Nat.add_zero] at hc0
    clear h hB hlt hl
    generalize Px.level (Px.pt zs 0) (Px.pt zs 1) v = r at *
    generalize Px.pt zs 0 = p0 at *
    generalize Px.pt zs 1 = p1 at *
    go_enter Tryz.func139, Tryz.ntmps139
    go_wp2_with fail
    go_quiet ((go_at_call 152; refine Calls.quiet_of_same (C.out _)))
    go_wp2_with fail
    go_ret
    exact ⟨rfl, (Keeps.refl _ _).drewN _⟩
  all_goals exact absurd q (by decide)
theorem repl_curve (w : World) (a : Option Addr) (n c : Nat) (zs : List Int) (hnc : n ≤ c) (h : Ints w a n zs) (v : Int) (hv : Px.Byte v) (hf : Px.Fits 1 zs) : Calls Tryz.prog 139 #[.int .i64 1, .slice a n c, .int .i64 v] w fun e w' => e = .returned (.int .i64 (Px.repl 1 zs v)) ∧ Keeps none' w w' := by
  obtain ⟨hB, ⟨q, _⟩ | ⟨_, hp⟩ | ⟨q, _⟩ | ⟨q, _⟩⟩ := hf
  · exact absurd q (by decide)
  · have C := Lib.hid (onCurve_any w a n c zs hnc h hp hB v hv)
    rw [show Px.repl 1 zs v = Px.curve zs v from rfl]
    clear h hB hp
    generalize Px.curve zs v = r at *
    go_enter Tryz.func139, Tryz.ntmps139
    go_wp2_with fail
    refine C.out.mono ?_
    rintro e w' ⟨rfl, hk⟩
    have HK := Lib.hid hk
    clear hk
    go_wp2_with fail
    go_ret
    exact ⟨rfl, HK.out⟩
  all_goals exact absurd q (by decide)
theorem repl_invert (w : World) (a : Option Addr) (n c : Nat) (zs : List Int) (hnc : n ≤ c) (h : Ints w a n zs) (v : Int) (hv : Px.Byte v) : Calls Tryz.prog 139 #[.int .i64 2, .slice a n c, .int .i64 v] w fun e w' => e = .returned (.int .i64 (Px.repl 2 zs v)) ∧ Keeps none' w w' := by
  rw [show Px.repl 2 zs v = 255 - v from rfl]
  obtain ⟨v0, v1⟩ := hv
  clear h
  go_enter Tryz.func139, Tryz.ntmps139
  go_wp2_with fail
  go_ret
  exact ⟨rfl, Keeps.refl _ _⟩
theorem repl_threshold (w : World) (a : Option Addr) (n c : Nat) (zs : List Int) (hnc : n ≤ c) (h : Ints w a n zs) (v : Int) (hv : Px.Byte v) (hf : Px.Fits 3 zs) : Calls Tryz.prog 139 #[.int .i64 3, .slice a n c, .int .i64 v] w fun e w' => e = .returned (.int .i64 (Px.repl 3 zs v)) ∧ Keeps none' w w' := by
  obtain ⟨hB, ⟨q, _⟩ | ⟨q, _⟩ | ⟨q, _⟩ | ⟨_, hl⟩⟩ := hf
  · exact absurd q (by decide)
  · exact absurd q (by decide)
  · exact absurd q (by decide)
  · have C := Lib.hid (fun w => cut_any (Px.pt zs 0) v w)
    rw [show Px.repl 3 zs v = if v < Px.pt zs 0 then 0 else 255 from rfl]
    obtain rfl : n = 1 := by rw [← h.1]; exact hl
    obtain ⟨b, off, rfl, -, hc0⟩ := h.at (i := 0) (by omega)
    rw [Nat.add_zero] at hc0
    clear h hB hl
    obtain ⟨r, hr⟩ : ∃ r : Int, r = if v < Px.pt zs 0 then 0 else 255 := ⟨_, rfl⟩
    rw [← hr] at C ⊢
    clear hr
    generalize Px.pt zs 0 = p0 at *
    go_enter Tryz.func139, Tryz.ntmps139
    go_wp2_with fail
    refine (C.out _).mono ?_
    rintro e w' ⟨rfl, rfl⟩
    go_wp2_with fail
    go_ret
    exact ⟨rfl, Keeps.refl _ _⟩
theorem repl_any (w : World) (a : Option Addr) (n c : Nat) (zs : List Int) (hnc : n ≤ c) (h : Ints w a n zs) (v : Int) (hv : Px.Byte v) (kind : Int) (hf : Px.Fits kind zs) : Calls Tryz.prog 139 #[.int .i64 kind, .slice a n c, .int .i64 v] w fun e w' => e = .returned (.int .i64 (Px.repl kind zs v)) ∧ Keeps none' w w' := by
  have hc : kind = 0 ∨ kind = 1 ∨ kind = 2 ∨ kind = 3 := by
    obtain ⟨_, ⟨q, _⟩ | ⟨q, _⟩ | ⟨q, _⟩ | ⟨q, _⟩⟩ := hf <;> omega
  rcases hc with rfl | rfl | rfl | rfl
  · exact repl_levels w a n c zs hnc h v hv hf
  · exact repl_curve w a n c zs hnc h v hv hf
  · exact repl_invert w a n c zs hnc h v hv
  · exact repl_threshold w a n c zs hnc h v hv hf
/-- The first k of 256 numbers in a block. -/
def TblTo (w : World) (B k : Nat) (f : Int → Int) : Prop := ∃ cs : Array Value, w.heap[B]? = some (.cells cs 3 (0, 0)) ∧ cs.size = 256 ∧ ∀ j : Nat, j < k → cs[j]? = some (.int .i64 (f j))
theorem TblTo.lt {w : World} {B k : Nat} {f : Int → Int} (h : TblTo w B k f) : B < w.heap.size := by obtain ⟨cs, h1, _⟩ := h; exact lt_of_block h1
theorem TblTo.later {w w' : World} {B k : Nat} {f : Int → Int} (h : TblTo w B k f) (hk : Keeps none' w w') : TblTo w' B k f := by
  obtain ⟨cs, h1, h2, h3⟩ := h
  exact ⟨cs, (hk.later B (lt_of_block h1)).trans h1, h2, h3⟩
theorem TblTo.old {w : World} {B k i : Nat} {f : Int → Int} (h : TblTo w B k f) (hi : i < 256) : ∃ v, w.cell? ⟨B, i, none⟩ = some v ∧ w.frozen? ⟨B, i, none⟩ = false := by
  obtain ⟨cs, h1, h2, h3⟩ := h
  exact ⟨cs[i]'(by omega), by rw [cell_of_row _ _ _ _ _ _ h1, Array.getElem?_eq_getElem (by omega)], frozen_of_row _ _ _ _ _ h1⟩
theorem TblTo.next {w : World} {B k : Nat} {f : Int → Int} (h : TblTo w B k f) (hk : k < 256) : TblTo (w.setCell ⟨B, k, none⟩ (.int .i64 (f k))) B (k + 1) f := by
  obtain ⟨cs, h1, h2, h3⟩ := h
  refine ⟨_, block_set h1 _, by simpa using h2, fun j hj => ?_⟩
  by_cases e : j = k
  · subst e; rw [Array.getElem?_setIfInBounds_self_of_lt (by omega)]
  · rw [Array.getElem?_setIfInBounds_ne (fun x => e x.symm)]; exact h3 j (by omega)
theorem TblTo.at {w : World} {B i : Nat} {f : Int → Int} (h : TblTo w B 256 f) (hi : i < 256) : w.cell? ⟨B, i, none⟩ = some (.int .i64 (f i)) := by
  obtain ⟨cs, h1, h2, h3⟩ := h
  rw [cell_of_row _ _ _ _ _ _ h1]; exact h3 i hi
/-- What a table's making answers. -/
def Tabled (w : World) (f : Int → Int) (e : Ending) (w' : World) : Prop := ∃ B, e = .returned (.tuple #[.slice (some ⟨B, 0, none⟩) 256 256, .bool true]) ∧ TblTo w' B 256 f ∧ Keeps none' w w' ∧ w.heap.size ≤ B
theorem info3 : (Tryz.prog.info? 3).map (fun i => (i.zero, i.size, i.bytes)) = some (some (.int .i64 0), 1, 8) := by kernel_rfl
theorem make256 (w : World) : (Instr.makeSlice 33 (.int .i64 256) (.int .i64 256)).run Tryz.prog w = .ok (.slice (some ⟨w.heap.size, 0, none⟩) 256 256) (w.alloc (.cells (madeCells #[.int .i64 0] 256) 3)) :=
  run_make_row' (P := Tryz.prog) 33 3 (.int .i64 0) 8 Tryz.underlying33 info3 rfl .i64 .i64 256 (by omega) (by omega) w
theorem tbl_new (w : World) (f : Int → Int) : TblTo (w.alloc (.cells (madeCells #[.int .i64 0] 256) 3)) w.heap.size 0 f :=
  ⟨_, heap_alloc_new _ _, by simp [madeCells], fun j hj => absurd hj (by omega)⟩
theorem table_no (w : World) (a : Option Addr) (n c : Nat) (zs : List Int) (hn : n ≤ 16777216) (h : Ints w a n zs) (kind : Int) (hf : ¬ Px.Fits kind zs) :
    Calls Tryz.prog 114 #[.int .i64 kind, .slice a n c] w fun e w' => e = .returned (.tuple #[.slice none 0 0, .bool false]) ∧ Keeps none' w w' := by
  have C := Lib.hid (fits_any w a n c zs hn h kind false ⟨(fun h => by cases h), fun h => absurd h hf⟩)
  clear h hf
  go_enter Tryz.func114, Tryz.ntmps114
  go_wp2_with fail
  refine C.out.mono ?_
  rintro e w' ⟨rfl, hk⟩
  have HK := Lib.hid hk
  clear hk
  go_wp2_with fail
  go_ret2
  exact ⟨rfl, HK.out⟩
set_option maxRecDepth 100000 in
set_option maxHeartbeats 800000 in
theorem table_yes (w : World) (a : Option Addr) (n c : Nat) (zs : List Int) (hn : n ≤ 16777216) (hnc : n ≤ c) (h : Ints w a n zs) (kind : Int) (hf : Px.Fits kind zs) :
    Calls Tryz.prog 114 #[.int .i64 kind, .slice a n c] w (Tabled w (Px.repl kind zs)) := by
  have C := Lib.hid (fits_any w a n c zs hn h kind true ⟨fun _ => hf, fun _ => rfl⟩)
  have H := Lib.hid h
  have HF := Lib.hid hf
  clear h hf
  have hmk := make256
  go_enter Tryz.func114, Tryz.ntmps114
  go_wp2_with fail
  refine C.out.mono ?_
  rintro e w' ⟨rfl, hk⟩
  have HK := Lib.hid hk
  clear hk
  go_wp2_with fail
  have T0 := Lib.hid (tbl_new w' (Px.repl kind zs))
  have K0 := Lib.hid (HK.out.alloc (.cells (madeCells #[.int .i64 0] 256) 3))
  have LB : w.heap.size ≤ w'.heap.size := HK.out.size
  generalize w'.alloc (.cells (madeCells #[.int .i64 0] 256) 3) = w1 at *
  generalize w'.heap.size = B at *
  clear HK hmk C
  go_loopw [15] (fun cnt wr => ∃ k : Nat, k ≤ 256 ∧ cnt = .int .i64 k ∧ TblTo wr B k (Px.repl kind zs) ∧ Keeps none' w wr) (fun cnt _ => 256 - (intOf cnt).toNat)
  case atStart => exact ⟨0, by omega, rfl, T0.out, K0.out⟩
  case round =>
    obtain ⟨k, hk, rfl, hT, hK⟩ := hrel
    have HT := Lib.hid hT
    have HK := Lib.hid hK
    clear hT hK
    by_cases hlt : k < 256
    · have R := Lib.hid (repl_any wr a n c zs hnc (H.out.later HK.out) (k : Int) ⟨by omega, by omega⟩ kind HF.out)
      have hki : (k : Int) < 256 := by omega
      go_wp2_with fail
      refine R.out.mono ?_
      rintro e w2 ⟨rfl, hk2⟩
      have HT2 := Lib.hid (HT.out.later hk2)
      have X := Lib.hid (HT2.out.next hlt)
      have Y := Lib.hid ((HK.out.next hk2).setCell (p := ⟨B, k, none⟩) (fun e => by simp only at e; omega) (.int .i64 (Px.repl kind zs k)))
      obtain ⟨ov, o1, o2⟩ := HT2.out.old hlt
      clear hk2
      generalize Px.repl kind zs k = r at *
      go_wp2_with fail
      go_roundw
      case rel => exact ⟨k + 1, by omega, by go_num, X.out, Y.out⟩
      case measure => simp [intOf]; omega
    · obtain rfl : k = 256 := by omega
      go_wp2_with fail
      go_ret2
      exact ⟨B, rfl, HT.out, HK.out, LB⟩
end Go.Proofs.YtfcpbpfemmdklaaGreat.Pi
