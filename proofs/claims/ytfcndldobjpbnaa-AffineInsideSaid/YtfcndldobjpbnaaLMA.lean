/- Maps that lead pixels' middles to pixels' middles: what is seen through them is the pixel there. Shifts, quarter turns. -/
import Derived.Test.YtfcndldobjpbnaaX
namespace Go.Proofs.Ytfcndldobjpbnaa
open Go.RowKit Go.Maps
set_option linter.unusedVariables false

namespace Af
theorem mixC_none (p q r m : Int) (hp : Byte p) : mixC 0 0 p q r m = p := by
  unfold mixC near Byte at *
  simp only [Int.sub_zero, Int.mul_zero, Int.zero_mul, Int.add_zero]
  omega
theorem mixed_none (p q r m : Int) (hp : Num p) : mixed 0 0 p q r m = p := by
  unfold mixed
  rw [mixC_none _ _ _ _ (p0_byte p), mixC_none _ _ _ _ (p1_byte p), mixC_none _ _ _ _ (p2_byte p), mixC_none _ _ _ _ (p3_byte p), join_parts hp]
theorem seen_exact {W H : Int} {zs : List Int} (hp : PicOk W H zs) (b : M) (s : Bool) {x y u v : Int} (hu : goU b x y = 65536 * u + 32768) (hv : goV b x y = 65536 * v + 32768) :
    seen W H zs b s x y = picAt W H zs u v := by
  unfold seen look
  rw [hu, hv]
  cases s
  · rw [if_neg (by decide), show (65536 * u + 32768) / 65536 = u by omega, show (65536 * v + 32768) / 65536 = v by omega]
  · rw [if_pos rfl]
    unfold smooth
    rw [show (65536 * u + 32768 - 32768) / 65536 = u by omega, show (65536 * v + 32768 - 32768) / 65536 = v by omega,
      show (65536 * u + 32768 - 32768) / 256 % 256 = 0 by omega, show (65536 * v + 32768 - 32768) / 256 % 256 = 0 by omega]
    exact mixed_none _ _ _ _ (picAt_num hp _ _)
/-- A shift by whole pixels. -/
def shift (x y : Int) : M := ⟨65536, 0, 0, 65536, 65536 * x, 65536 * y⟩
theorem one_shift : one = shift 0 0 := rfl
theorem shift_back {x y : Int} (hx : -40 ≤ x ∧ x ≤ 40) (hy : -40 ≤ y ∧ y ≤ 40) : backE (shift x y) = (shift (-x) (-y), 0) := by
  have e4 : (shift x y).back4 = ⟨65536, 0, 0, 65536, 0, 0⟩ := by
    unfold M.back4 M.area round shift
    simp
  have eb : (shift x y).back = shift (-x) (-y) := by
    unfold M.back
    rw [e4]
    unfold shift near slopeU slopeV
    simp only [M.mk.injEq, true_and]
    constructor <;> omega
  have ok : ∀ {x y : Int}, (-40 ≤ x ∧ x ≤ 40) → (-40 ≤ y ∧ y ≤ 40) → (shift x y).ok := by
    intro x y hx hy
    unfold M.ok Slope Shift shift
    simp only
    unfold Up
    omega
  unfold backE
  rw [if_pos (ok hx hy), eb, if_pos ⟨by unfold M.area shift; simp, ok (by omega) (by omega)⟩]
theorem shift_go (x y X Y : Int) : goU (shift x y) X Y = 65536 * (X + x) + 32768 ∧ goV (shift x y) X Y = 65536 * (Y + y) + 32768 := by
  unfold goU goV slopeU slopeV shift
  simp only
  constructor <;> omega
theorem shift_seen {W H : Int} {zs : List Int} (hp : PicOk W H zs) (s : Bool) (x y X Y : Int) : seen W H zs (shift (-x) (-y)) s X Y = picAt W H zs (X - x) (Y - y) :=
  seen_exact hp _ s (by rw [(shift_go _ _ _ _).1]; rfl) (by rw [(shift_go _ _ _ _).2]; rfl)
/-- The places of a picture, one behind the other. -/
theorem picAt_idx {W H : Int} {zs : List Int} (hp : PicOk W H zs) {i : Nat} (hi : i < zs.length) : picAt W H zs ((i % W.toNat : Nat) : Int) ((i / W.toNat : Nat) : Int) = zs.getD i 0 := by
  obtain ⟨⟨w0, w1⟩, ⟨h0, h1⟩, hl, -⟩ := hp
  obtain ⟨p, rfl⟩ : ∃ p : Nat, W = p := ⟨W.toNat, by omega⟩
  obtain ⟨q, rfl⟩ : ∃ q : Nat, H = q := ⟨H.toNat, by omega⟩
  rw [Int.toNat_natCast]
  have hl' : zs.length = p * q := by exact_mod_cast hl
  have hp0 : 0 < p := by
    rcases Nat.eq_zero_or_pos p with h | h
    · rw [h, Nat.zero_mul] at hl'; omega
    · exact h
  have l1 : i % p < p := Nat.mod_lt _ hp0
  have l2 : i / p < q := by rw [Nat.div_lt_iff_lt_mul hp0, Nat.mul_comm]; omega
  have l3 := Int.natCast_nonneg (i / p)
  unfold picAt
  rw [if_neg (by omega)]
  have e : (((i / p : Nat) : Int) * (p : Int) + ((i % p : Nat) : Int)).toNat = i := by
    have h3 : (i / p) * p + i % p = i := by rw [Nat.mul_comm]; exact Nat.div_add_mod i p
    have h4 : (((i / p : Nat) : Int) * (p : Int) + ((i % p : Nat) : Int)) = ((i / p * p + i % p : Nat) : Int) := by push_cast; rfl
    rw [h4, h3]; rfl
  rw [e]
/-- Pictures of one size with the same pixels are the same. -/
theorem pic_ext {W H : Int} {zs ys : List Int} (hz : PicOk W H zs) (hy : PicOk W H ys) (h : ∀ x y, 0 ≤ x → x < W → 0 ≤ y → y < H → picAt W H zs x y = picAt W H ys x y) : zs = ys := by
  have hl : zs.length = ys.length := by
    have h1 := hz.2.2.1
    have h2 := hy.2.2.1
    omega
  refine List.ext_getElem hl fun i h1 h2 => ?_
  have e1 := picAt_idx hz h1
  have e2 := picAt_idx hy h2
  have hw : 0 < W.toNat := by
    have h3 := hz.2.2.1
    have h4 := hz.1.1
    rcases Int.lt_or_le 0 W with h5 | h5
    · omega
    · obtain rfl : W = 0 := by omega
      rw [Int.zero_mul] at h3; omega
  have hq : (i / W.toNat : Nat) < H.toNat := by
    rw [Nat.div_lt_iff_lt_mul hw, Nat.mul_comm]
    have := hz.2.2.1
    have h3 : ((W.toNat * H.toNat : Nat) : Int) = W * H := by
      push_cast
      rw [Int.toNat_of_nonneg (by have := hz.1.1; omega), Int.toNat_of_nonneg (by have := hz.2.1.1; omega)]
    omega
  have hr := Nat.mod_lt i hw
  have l3 := Int.natCast_nonneg (i / W.toNat)
  have e3 := h ((i % W.toNat : Nat) : Int) ((i / W.toNat : Nat) : Int) (by omega) (by omega) (by omega) (by omega)
  rw [e1, e2] at e3
  rw [List.getD_eq_getElem?_getD, List.getD_eq_getElem?_getD, List.getElem?_eq_getElem h1, List.getElem?_eq_getElem h2] at e3
  exact e3
theorem seenTo_pic {W H : Int} {zs : List Int} (hp : PicOk W H zs) (b : M) (s : Bool) {P Q : Int} (hP : Side P) (hQ : Side Q) : PicOk P Q (seenTo W H zs b s P.toNat (P.toNat * Q.toNat)) := by
  refine ⟨hP, hQ, ?_, fun z hz => ?_⟩
  · rw [seenTo_length]
    push_cast
    rw [Int.toNat_of_nonneg (by have := hP.1; omega), Int.toNat_of_nonneg (by have := hQ.1; omega)]
  · unfold seenTo at hz
    obtain ⟨i, -, rfl⟩ := List.mem_map.1 hz
    exact seen_num hp b s _ _
theorem seenTo_at {W H : Int} {zs : List Int} (b : M) (s : Bool) {P Q : Int} (hP : Side P) (hQ : Side Q) {x y : Int} (x0 : 0 ≤ x) (x1 : x < P) (y0 : 0 ≤ y) (y1 : y < Q) :
    picAt P Q (seenTo W H zs b s P.toNat (P.toNat * Q.toNat)) x y = seen W H zs b s x y := by
  obtain ⟨p, rfl⟩ : ∃ p : Nat, P = p := ⟨P.toNat, by omega⟩
  obtain ⟨q, rfl⟩ : ∃ q : Nat, Q = q := ⟨Q.toNat, by omega⟩
  obtain ⟨i, rfl⟩ : ∃ i : Nat, x = i := ⟨x.toNat, by omega⟩
  obtain ⟨j, rfl⟩ : ∃ j : Nat, y = j := ⟨y.toNat, by omega⟩
  rw [Int.toNat_natCast, Int.toNat_natCast]
  unfold picAt
  rw [if_neg (by omega)]
  have e : (((j : Nat) : Int) * (p : Int) + (i : Int)).toNat = j * p + i := by
    rw [show ((j : Int) * (p : Int) + (i : Int)) = ((j * p + i : Nat) : Int) by push_cast; rfl]; rfl
  rw [e]
  have hi : i < p := by omega
  have hj : j < q := by omega
  have lt : j * p + i < p * q := by
    have h1 : (j + 1) * p ≤ q * p := Nat.mul_le_mul_right _ hj
    rw [Nat.succ_mul] at h1
    rw [Nat.mul_comm p q]
    omega
  unfold seenTo
  rw [List.getD_eq_getElem?_getD, List.getElem?_map, List.getElem?_range lt]
  have e1 : (j * p + i) % p = i := by rw [Nat.mul_comm, Nat.mul_add_mod]; exact Nat.mod_eq_of_lt hi
  have e2 : (j * p + i) / p = j := by rw [Nat.mul_comm, Nat.mul_add_div (by omega)]; rw [Nat.div_eq_of_lt hi]; rfl
  show seen W H zs b s (((j * p + i) % p : Nat) : Int) (((j * p + i) / p : Nat) : Int) = _
  rw [e1, e2]
theorem seenTo_same {W H : Int} {zs : List Int} (hp : PicOk W H zs) (s : Bool) : seenTo W H zs (shift 0 0) s W.toNat (W.toNat * H.toNat) = zs := by
  refine pic_ext (seenTo_pic hp _ s hp.1 hp.2.1) hp fun x y x0 x1 y0 y1 => ?_
  rw [seenTo_at _ s hp.1 hp.2.1 x0 x1 y0 y1]
  have := shift_seen hp s 0 0 x y
  simpa using this
/-- A quarter turn, laid so that what comes of a picture of the height H begins at no place below 0. -/
def turn (H : Int) : M := ⟨0, -65536, 65536, 0, 65536 * H, 0⟩
def turnBack (H : Int) : M := ⟨0, 65536, -65536, 0, 0, 65536 * H⟩
theorem turn_back {H : Int} (hH : 0 ≤ H ∧ H ≤ 40) : backE (turn H) = (turnBack H, 0) := by
  have e4 : (turn H).back4 = ⟨0, 65536, -65536, 0, 0, 0⟩ := by
    unfold M.back4 M.area round turn
    simp
  have eb : (turn H).back = turnBack H := by
    unfold M.back
    rw [e4]
    unfold turn turnBack near slopeU slopeV
    simp only [M.mk.injEq, true_and]
    constructor <;> omega
  have ok : (turn H).ok ∧ (turnBack H).ok := by
    unfold M.ok Slope Shift turn turnBack
    simp only
    unfold Up
    omega
  unfold backE
  rw [if_pos ok.1, eb, if_pos ⟨by unfold M.area turn; simp, ok.2⟩]
theorem turn_seen {W H : Int} {zs : List Int} (hp : PicOk W H zs) (s : Bool) (x y : Int) : seen W H zs (turnBack H) s x y = picAt W H zs y (H - 1 - x) := by
  refine seen_exact hp _ s ?_ ?_
  · unfold goU slopeU turnBack
    simp only
    omega
  · unfold goV slopeV turnBack
    simp only
    omega
/-- A picture, turned by a quarter. -/
def quarter (W H : Int) (zs : List Int) (s : Bool) : List Int := seenTo W H zs (turnBack H) s H.toNat (H.toNat * W.toNat)
theorem quarter_pic {W H : Int} {zs : List Int} (hp : PicOk W H zs) (s : Bool) : PicOk H W (quarter W H zs s) := seenTo_pic hp _ s hp.2.1 hp.1
theorem quarter_at {W H : Int} {zs : List Int} (hp : PicOk W H zs) (s : Bool) {x y : Int} (x0 : 0 ≤ x) (x1 : x < H) (y0 : 0 ≤ y) (y1 : y < W) : picAt H W (quarter W H zs s) x y = picAt W H zs y (H - 1 - x) := by
  unfold quarter
  rw [seenTo_at _ s hp.2.1 hp.1 x0 x1 y0 y1, turn_seen hp]
theorem quarter_four {W H : Int} {zs : List Int} (hp : PicOk W H zs) (s : Bool) : quarter H W (quarter W H (quarter H W (quarter W H zs s) s) s) s = zs := by
  have h1 := quarter_pic hp s
  have h2 := quarter_pic h1 s
  have h3 := quarter_pic h2 s
  have h4 := quarter_pic h3 s
  refine pic_ext h4 hp fun x y x0 x1 y0 y1 => ?_
  rw [quarter_at h3 s x0 x1 y0 y1, quarter_at h2 s y0 y1 (by omega) (by omega), quarter_at h1 s (by omega) (by omega) (by omega) (by omega), quarter_at hp s (by omega) (by omega) (by omega) (by omega)]
  rw [show W - 1 - (W - 1 - x) = x by omega, show H - 1 - (H - 1 - y) = y by omega]
end Af
end Go.Proofs.Ytfcndldobjpbnaa
