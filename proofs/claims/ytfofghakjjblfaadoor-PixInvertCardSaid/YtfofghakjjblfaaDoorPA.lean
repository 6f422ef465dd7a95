/- The algebra of pixels in plain numbers. -/
namespace Go.Proofs.YtfofghakjjblfaaDoor
namespace Px

def Byte (a : Int) : Prop := 0 ≤ a ∧ a ≤ 255
/-- The nearest to p of 255 parts. -/
def near (p : Int) : Int := (p + 127) / 255
def mul (a b : Int) : Int := near (a * b)
def bare (c a : Int) : Int := if a = 0 then 0 else min ((255 * c + a / 2) / a) 255

theorem prod {a b : Int} (ha : Byte a) (hb : Byte b) : 0 ≤ a * b ∧ a * b ≤ 65025 := by
  obtain ⟨a0, a1⟩ := ha
  obtain ⟨b0, b1⟩ := hb
  exact ⟨Int.mul_nonneg a0 b0, by have := Int.mul_le_mul a1 b1 b0 (by omega); omega⟩
theorem near_byte {p : Int} (h0 : 0 ≤ p) (h1 : p ≤ 65025) : Byte (near p) := by unfold near Byte; omega
theorem mul_byte {a b : Int} (ha : Byte a) (hb : Byte b) : Byte (mul a b) := near_byte (prod ha hb).1 (prod ha hb).2
theorem mul_comm (a b : Int) : mul a b = mul b a := by unfold mul; rw [Int.mul_comm]
theorem mul_zero (a : Int) : mul a 0 = 0 := by unfold mul near; rw [Int.mul_zero]; rfl
theorem zero_mul (a : Int) : mul 0 a = 0 := by rw [mul_comm, mul_zero]
theorem mul_full (a : Int) : mul a 255 = a := by unfold mul near; omega
theorem full_mul (a : Int) : mul 255 a = a := by rw [mul_comm, mul_full]
theorem near_mono {p q : Int} (h : p ≤ q) : near p ≤ near q := by unfold near; omega
theorem mul_mono {a b c : Int} (h : a ≤ b) (hc : 0 ≤ c) : mul a c ≤ mul b c := near_mono (Int.mul_le_mul_of_nonneg_right h hc)
theorem mul_mono2 {a b c : Int} (h : a ≤ b) (hc : 0 ≤ c) : mul c a ≤ mul c b := near_mono (Int.mul_le_mul_of_nonneg_left h hc)
theorem mul_le {a b : Int} (ha : Byte a) (hb : Byte b) : mul a b ≤ a ∧ mul a b ≤ b := by
  have h1 := mul_mono2 (c := a) hb.2 ha.1
  have h2 := mul_mono ha.2 hb.1
  rw [mul_full] at h1
  rw [full_mul] at h2
  exact ⟨h1, h2⟩

/-- The document's product. -/
def docNear (p : Int) : Int := if 255 < 2 * (p - 255 * (p / 255)) then p / 255 + 1 else p / 255
theorem docNear_eq (p : Int) : docNear p = near p := by unfold docNear near; split <;> omega

theorem div_bounds {x a : Int} (ha : 0 < a) : a * (x / a) ≤ x ∧ x < a * (x / a) + a := by
  have h := Int.mul_ediv_add_emod x a
  have h1 := Int.emod_nonneg x (show a ≠ 0 by omega)
  have h2 := Int.emod_lt_of_pos x ha
  omega
theorem bare_byte {c a : Int} (hc : Byte c) (ha : Byte a) : Byte (bare c a) := by
  unfold bare Byte
  obtain ⟨c0, c1⟩ := hc
  obtain ⟨a0, a1⟩ := ha
  split
  · omega
  · have : 0 ≤ (255 * c + a / 2) / a := Int.ediv_nonneg (by omega) (by omega)
    omega
theorem bare_full {c : Int} (hc : Byte c) : bare c 255 = c := by unfold bare; unfold Byte at hc; rw [if_neg (by omega)]; omega
theorem bare_zero (a : Int) (ha : Byte a) : bare 0 a = 0 := by
  unfold bare
  split
  · rfl
  · obtain ⟨a0, a1⟩ := ha
    have h : (255 * 0 + a / 2) / a = 0 := Int.ediv_eq_zero_of_lt (by omega) (by omega)
    rw [h]; rfl
theorem bare_none (c : Int) : bare c 0 = 0 := rfl
/-- Bare and multiplied again: what it was. -/
theorem bare_back {c a : Int} (hc : Byte c) (ha : Byte a) (h : c ≤ a) : mul (bare c a) a = c := by
  obtain ⟨c0, c1⟩ := hc
  obtain ⟨a0, a1⟩ := ha
  unfold bare
  split
  · rename_i e; subst e; rw [mul_zero]; omega
  · have hb := div_bounds (x := 255 * c + a / 2) (a := a) (by omega)
    have hv : (255 * c + a / 2) / a ≤ 255 := by
      have : (255 * c + a / 2) / a < 256 := Int.ediv_lt_of_lt_mul (by omega) (by omega)
      omega
    rw [Int.min_eq_left hv]
    generalize (255 * c + a / 2) / a = v at *
    unfold mul near
    rw [Int.mul_comm]
    generalize a * v = p at *
    omega
/-- Multiplied and made bare again: off by what rounding costs. -/
theorem mul_bare {a b : Int} (ha : Byte a) (hb : Byte b) : b = 0 ∨ (b * (bare (mul a b) b - a) ≤ 255 ∧ -255 ≤ b * (bare (mul a b) b - a)) := by
  by_cases h0 : b = 0
  · exact .inl h0
  · refine .inr ?_
    have hp := prod ha hb
    obtain ⟨a0, a1⟩ := ha
    obtain ⟨b0, b1⟩ := hb
    unfold bare
    rw [if_neg h0]
    have hm : mul a b = near (a * b) := rfl
    have hq := div_bounds (x := 255 * mul a b + b / 2) (a := b) (by omega)
    have hn : 255 * mul a b ≤ a * b + 127 ∧ a * b - 127 ≤ 255 * mul a b := by rw [hm]; unfold near; omega
    generalize (255 * mul a b + b / 2) / b = v at *
    by_cases hv : v ≤ 255
    · rw [Int.min_eq_left hv, Int.mul_sub, Int.mul_comm b a]
      omega
    · rw [Int.min_eq_right (by omega), Int.mul_sub, Int.mul_comm b a]
      have h1 : b * 255 ≤ b * v := Int.mul_le_mul_of_nonneg_left (by omega) b0
      have h2 : a * b ≤ 255 * b := Int.mul_le_mul_of_nonneg_right a1 b0
      omega

/-! Ways. -/
def shareOf (k other : Int) : Int := if k = 1 then 255 else if k = 2 then other else if k = 3 then 255 - other else 0
theorem share_byte {k o : Int} (h : Byte o) : Byte (shareOf k o) := by
  unfold shareOf Byte at *; split
  · omega
  · split
    · omega
    · split <;> omega
def wayRow : Nat → Int × Int
  | 0 => (0, 0) | 1 => (1, 0) | 2 => (0, 1) | 3 => (1, 3) | 4 => (3, 1) | 5 => (2, 0) | 6 => (0, 2) | 7 => (3, 0) | 8 => (0, 3) | 9 => (2, 3) | 10 => (3, 2) | 11 => (3, 3) | _ => (0, 0)
def wayNo (w : Int) : Nat := if w < 0 ∨ 12 ≤ w then 0 else w.toNat
theorem wayNo_lt (w : Int) : wayNo w < 12 := by unfold wayNo; split <;> omega
def F (way A : Int) : Int := shareOf (wayRow (wayNo way)).1 A
def G (way S : Int) : Int := shareOf (wayRow (wayNo way)).2 S
theorem F_byte {way A : Int} (h : Byte A) : Byte (F way A) := share_byte h
theorem G_byte {way A : Int} (h : Byte A) : Byte (G way A) := share_byte h
/-- One number of a way. -/
def laid (way A S s d : Int) : Int := min (mul s (F way A) + mul d (G way S)) 255
theorem laid_byte {way A S s d : Int} (hA : Byte A) (hS : Byte S) (hs : Byte s) (hd : Byte d) : Byte (laid way A S s d) := by
  have h1 := mul_byte hs (F_byte (way := way) hA)
  have h2 := mul_byte hd (G_byte (way := way) hS)
  unfold laid Byte at *
  omega
theorem laid_mono {way A S s d : Int} (hA : Byte A) (hS : Byte S) (hs : s ≤ S) (hd : d ≤ A) : laid way A S s d ≤ laid way A S S A := by
  have h1 := mul_mono hs (F_byte (way := way) hA).1
  have h2 := mul_mono hd (G_byte (way := way) hS).1
  unfold laid
  omega

/-! Pixels. -/
structure Pix where
  r : Int
  g : Int
  b : Int
  a : Int
def Pix.ok (p : Pix) : Prop := Byte p.r ∧ Byte p.g ∧ Byte p.b ∧ Byte p.a ∧ p.r ≤ p.a ∧ p.g ≤ p.a ∧ p.b ≤ p.a
instance (a : Int) : Decidable (Byte a) := inferInstanceAs (Decidable (0 ≤ a ∧ a ≤ 255))
instance (p : Pix) : Decidable p.ok := inferInstanceAs (Decidable (_ ∧ _))
def Pix.bytes (p : Pix) : Prop := Byte p.r ∧ Byte p.g ∧ Byte p.b ∧ Byte p.a
theorem Pix.ok.bytes {p : Pix} (h : p.ok) : p.bytes := ⟨h.1, h.2.1, h.2.2.1, h.2.2.2.1⟩
def way (k : Int) (s d : Pix) : Pix := ⟨laid k d.a s.a s.r d.r, laid k d.a s.a s.g d.g, laid k d.a s.a s.b d.b, laid k d.a s.a s.a d.a⟩
theorem way_bytes {k : Int} {s d : Pix} (hs : s.bytes) (hd : d.bytes) : (way k s d).bytes :=
  ⟨laid_byte hd.2.2.2 hs.2.2.2 hs.1 hd.1, laid_byte hd.2.2.2 hs.2.2.2 hs.2.1 hd.2.1, laid_byte hd.2.2.2 hs.2.2.2 hs.2.2.1 hd.2.2.1, laid_byte hd.2.2.2 hs.2.2.2 hs.2.2.2 hd.2.2.2⟩
theorem way_ok {k : Int} {s d : Pix} (hs : s.ok) (hd : d.ok) : (way k s d).ok := by
  obtain ⟨b1, b2, b3, b4⟩ := way_bytes (k := k) hs.bytes hd.bytes
  obtain ⟨-, -, -, sa, s1, s2, s3⟩ := hs
  obtain ⟨-, -, -, da, d1, d2, d3⟩ := hd
  exact ⟨b1, b2, b3, b4, laid_mono da sa s1 d1, laid_mono da sa s2 d2, laid_mono da sa s3 d3⟩
def nothing : Pix := ⟨0, 0, 0, 0⟩
theorem nothing_ok : nothing.ok := by decide

/-! Modes. -/
def screened (x y : Int) : Int := x + y - mul x y
def hardLit (x y : Int) : Int := if y ≤ 127 then mul x (2 * y) else screened x (2 * y - 255)
def dodged (x y : Int) : Int := if x = 0 then 0 else if y = 255 then 255 else min (255 * x / (255 - y)) 255
def burnt (x y : Int) : Int := if x = 255 then 255 else if y = 0 then 0 else 255 - min (255 * (255 - x) / y) 255
def softLit (x y : Int) : Int := min (max (mul x x + 2 * mul x y - 2 * mul (mul x x) y) 0) 255
def mixed (m x y : Int) : Int :=
  if m = 1 then mul x y else if m = 2 then screened x y else if m = 3 then hardLit y x else if m = 4 then min x y else if m = 5 then max x y
  else if m = 6 then dodged x y else if m = 7 then burnt x y else if m = 8 then hardLit x y else if m = 9 then max x y - min x y
  else if m = 10 then x + y - 2 * mul x y else if m = 11 then softLit x y else y
theorem screened_byte {x y : Int} (hx : Byte x) (hy : Byte y) : Byte (screened x y) := by
  have h := mul_le hx hy
  have h3 : (255 - x) * (255 - y) = 65025 - 255 * x - 255 * y + x * y := by
    rw [Int.sub_mul, Int.mul_sub, Int.mul_sub]; omega
  have h4 := Int.mul_nonneg (show 0 ≤ 255 - x by unfold Byte at hx; omega) (show 0 ≤ 255 - y by unfold Byte at hy; omega)
  have h5 : mul x y = (x * y + 127) / 255 := rfl
  unfold screened Byte at *
  omega
theorem screened_le {x y : Int} (hx : Byte x) (hy : Byte y) : x ≤ screened x y ∧ y ≤ screened x y := by
  have h := mul_le hx hy
  unfold screened
  omega
theorem hardLit_byte {x y : Int} (hx : Byte x) (hy : Byte y) : Byte (hardLit x y) := by
  unfold hardLit
  split
  · exact mul_byte hx (by unfold Byte at *; omega)
  · exact screened_byte hx (by unfold Byte at *; omega)
theorem dodged_byte {x y : Int} (hx : Byte x) (hy : Byte y) : Byte (dodged x y) := by
  unfold dodged
  split
  · decide
  · split
    · decide
    · have : 0 ≤ 255 * x / (255 - y) := Int.ediv_nonneg (by unfold Byte at hx; omega) (by unfold Byte at hy; omega)
      unfold Byte; omega
theorem burnt_byte {x y : Int} (hx : Byte x) (hy : Byte y) : Byte (burnt x y) := by
  unfold burnt
  split
  · decide
  · split
    · decide
    · have : 0 ≤ 255 * (255 - x) / y := Int.ediv_nonneg (by unfold Byte at hx; omega) (by unfold Byte at hy; omega)
      unfold Byte; omega
theorem min_byte {x y : Int} (hx : Byte x) (hy : Byte y) : Byte (min x y) := by unfold Byte at *; omega
theorem max_byte {x y : Int} (hx : Byte x) (hy : Byte y) : Byte (max x y) := by unfold Byte at *; omega
theorem apart_byte {x y : Int} (hx : Byte x) (hy : Byte y) : Byte (max x y - min x y) := by unfold Byte at *; omega
theorem excl_byte {x y : Int} (hx : Byte x) (hy : Byte y) : Byte (x + y - 2 * mul x y) := by
  have h2 := mul_le hx hy
  have h1 := mul_byte hx hy
  have h3 := screened_byte hx hy
  unfold screened at h3
  generalize mul x y = p at *
  unfold Byte at *
  omega
theorem softLit_byte (x y : Int) : Byte (softLit x y) := by unfold softLit Byte; omega
theorem mixed_byte {m x y : Int} (hx : Byte x) (hy : Byte y) : Byte (mixed m x y) := by
  unfold mixed
  split
  · exact mul_byte hx hy
  split
  · exact screened_byte hx hy
  split
  · exact hardLit_byte hy hx
  split
  · exact min_byte hx hy
  split
  · exact max_byte hx hy
  split
  · exact dodged_byte hx hy
  split
  · exact burnt_byte hx hy
  split
  · exact hardLit_byte hx hy
  split
  · exact apart_byte hx hy
  split
  · exact excl_byte hx hy
  split
  · exact softLit_byte x y
  · exact hy
def whole (S A : Int) : Int := screened A S
def blended (m A S s d : Int) : Int := min (mul s (255 - A) + mul d (255 - S) + mul (mul S A) (mixed m (bare d A) (bare s S))) (whole S A)
def blend (m : Int) (s d : Pix) : Pix := ⟨blended m d.a s.a s.r d.r, blended m d.a s.a s.g d.g, blended m d.a s.a s.b d.b, whole s.a d.a⟩
theorem blended_byte {m A S s d : Int} (hA : Byte A) (hS : Byte S) (hs : Byte s) (hd : Byte d) : Byte (blended m A S s d) ∧ blended m A S s d ≤ whole S A := by
  have h1 := mul_byte hs (b := 255 - A) (by unfold Byte at *; omega)
  have h2 := mul_byte hd (b := 255 - S) (by unfold Byte at *; omega)
  have h3 := mul_byte (mul_byte hS hA) (mixed_byte (m := m) (bare_byte hd hA) (bare_byte hs hS))
  have h4 := screened_byte hA hS
  unfold blended whole Byte at *
  omega
theorem blend_ok {m : Int} {s d : Pix} (hs : s.ok) (hd : d.ok) : (blend m s d).ok := by
  obtain ⟨sr, sg, sb, sa, -⟩ := hs
  obtain ⟨dr, dg, db, da, -⟩ := hd
  have h1 := blended_byte (m := m) da sa sr dr
  have h2 := blended_byte (m := m) da sa sg dg
  have h3 := blended_byte (m := m) da sa sb db
  exact ⟨h1.1, h2.1, h3.1, screened_byte da sa, h1.2, h2.2, h3.2⟩
theorem blend_nothing {m : Int} {s : Pix} (hs : s.ok) : blend m s nothing = s := by
  obtain ⟨hr, hg, hb, ha, h1, h2, h3⟩ := hs
  have e : ∀ c, c ≤ s.a → blended m 0 s.a c 0 = c := by
    intro c hc
    unfold blended whole screened
    rw [zero_mul, mul_zero, zero_mul, zero_mul, show (255 : Int) - 0 = 255 by rfl, mul_full]
    omega
  unfold blend nothing
  simp only [e _ h1, e _ h2, e _ h3]
  unfold whole screened
  rw [zero_mul, show 0 + s.a - 0 = s.a by omega]
theorem nothing_blend {m : Int} {d : Pix} (hd : d.ok) : blend m nothing d = d := by
  obtain ⟨hr, hg, hb, ha, h1, h2, h3⟩ := hd
  have e : ∀ c, c ≤ d.a → blended m d.a 0 0 c = c := by
    intro c hc
    unfold blended whole screened
    rw [zero_mul, mul_zero, zero_mul, zero_mul, show (255 : Int) - 0 = 255 by rfl, mul_full]
    omega
  unfold blend nothing
  simp only [e _ h1, e _ h2, e _ h3]
  unfold whole screened
  rw [mul_zero, show d.a + 0 - 0 = d.a by omega]
/-- On full pixels it is the mode's. -/
theorem blended_full {m x y : Int} (hx : Byte x) (hy : Byte y) : blended m 255 255 y x = mixed m x y := by
  have h := mixed_byte (m := m) hx hy
  unfold blended whole screened
  rw [bare_full hx, bare_full hy, show (255 : Int) - 255 = 0 by rfl, mul_zero, mul_zero, full_mul, full_mul]
  unfold Byte at h
  omega
def unmul (p : Pix) : Pix := ⟨bare p.r p.a, bare p.g p.a, bare p.b p.a, p.a⟩
def mult (p : Pix) : Pix := ⟨mul p.r p.a, mul p.g p.a, mul p.b p.a, p.a⟩
theorem mult_unmul {p : Pix} (h : p.ok) : mult (unmul p) = p := by
  obtain ⟨hr, hg, hb, ha, h1, h2, h3⟩ := h
  unfold mult unmul
  simp only [bare_back hr ha h1, bare_back hg ha h2, bare_back hb ha h3]
theorem unmul_bytes {p : Pix} (h : p.bytes) : (unmul p).bytes := ⟨bare_byte h.1 h.2.2.2, bare_byte h.2.1 h.2.2.2, bare_byte h.2.2.1 h.2.2.2, h.2.2.2⟩
theorem mult_ok {p : Pix} (h : p.bytes) : (mult p).ok :=
  ⟨mul_byte h.1 h.2.2.2, mul_byte h.2.1 h.2.2.2, mul_byte h.2.2.1 h.2.2.2, h.2.2.2, (mul_le h.1 h.2.2.2).2, (mul_le h.2.1 h.2.2.2).2, (mul_le h.2.2.1 h.2.2.2).2⟩
/-- The turned way: source and ground change places. -/
def turned : Nat → Nat
  | 0 => 0 | 1 => 2 | 2 => 1 | 3 => 4 | 4 => 3 | 5 => 6 | 6 => 5 | 7 => 8 | 8 => 7 | 9 => 10 | 10 => 9 | 11 => 11 | _ => 0
theorem wayRow_turned (k : Nat) (h : k < 12) : wayRow (turned k) = ((wayRow k).2, (wayRow k).1) ∧ turned k < 12 := by
  have : ∀ k : Fin 12, wayRow (turned k.1) = ((wayRow k.1).2, (wayRow k.1).1) ∧ turned k.1 < 12 := by decide
  exact this ⟨k, h⟩
theorem wayNo_nat (k : Nat) (h : k < 12) : wayNo (k : Int) = k := by unfold wayNo; rw [if_neg (by omega)]; omega
theorem way_turned (k : Nat) (h : k < 12) (s d : Pix) : way (k : Int) s d = way (turned k : Int) d s := by
  obtain ⟨h1, h2⟩ := wayRow_turned k h
  unfold way laid F G
  rw [wayNo_nat k h, wayNo_nat _ h2, h1]
  simp only [Int.add_comm]
end Px
end Go.Proofs.YtfofghakjjblfaaDoor
