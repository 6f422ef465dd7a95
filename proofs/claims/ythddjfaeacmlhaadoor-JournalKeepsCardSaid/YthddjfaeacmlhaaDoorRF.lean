/- The contract of the helper that xors the ends of two lists. -/
import Derived.Test.YthddjfaeacmlhaaDoorRE
import Derived.StillTailTactics
import Derived.LoopTactic
import Derived.RegionTactic
import Derived.ChangeAlike
import Derived.BigRegion
namespace Go.Proofs.YthddjfaeacmlhaaDoor.Re
open Go.RowKit

def xr (a b : Int) : Int := bits .xor .u8 a b

theorem xr_byte (a b : Int) (ha : 0 ≤ a ∧ a ≤ 255) (hb : 0 ≤ b ∧ b ≤ 255) : 0 ≤ xr a b ∧ xr a b ≤ 255 := by
  unfold xr
  rw [u8_xor a b ha.1 (by omega) hb.1 (by omega)]
  have h : a.toNat ^^^ b.toNat < 2 ^ 8 := Nat.xor_lt_two_pow (by omega) (by omega)
  omega

/-- The first i of the bytes from p on, xored with those of gs from q on. -/
def mix (xs gs : List Int) (p q : Nat) : Nat → List Int
  | 0 => xs
  | i + 1 => (mix xs gs p q i).set (p + i) (xr (xs.getD (p + i) 0) (gs.getD (q + i) 0))

theorem mix_length (xs gs : List Int) (p q i : Nat) : (mix xs gs p q i).length = xs.length := by
  induction i with
  | zero => rfl
  | succ i ih => simp [mix, ih]

theorem mix_ahead (xs gs : List Int) (p q i j : Nat) (h : j < p ∨ p + i ≤ j) : (mix xs gs p q i)[j]? = xs[j]? := by
  induction i with
  | zero => rfl
  | succ i ih =>
    simp only [mix]
    rw [List.getElem?_set_ne (by omega)]
    exact ih (by omega)

/-- What the round needs of block g. -/
def Row (w : World) (g : Nat) (sz len : Nat) (xs : List Int) : Prop :=
  ∃ cur : Array Value, w.heap[g]? = some (.cells cur 5 (0, 0)) ∧ cur.size = sz ∧ cur.toList.take len = xs.map (Value.int .u8)

theorem Row.cell {w : World} {g sz len : Nat} {xs : List Int} (h : Row w g sz len xs) {j : Nat} {x : Int} (hx : xs[j]? = some x) : w.cell? ⟨g, j, none⟩ = some (.int .u8 x) := by
  obtain ⟨cur, hg, _, ht⟩ := h
  have k := cell_at (at_ := j) (n := 1) hg ht 0 (.int .u8 x) (by
    rw [List.getElem?_map, List.getElem?_take]
    simp [hx])
  simpa [Addr.add] using k
theorem Row.free {w : World} {g sz len : Nat} {xs : List Int} (h : Row w g sz len xs) (j : Nat) : w.frozen? ⟨g, j, none⟩ = false := by
  obtain ⟨cur, hg, _, ht⟩ := h
  exact reel_free hg j
theorem Row.set {w : World} {g sz len : Nat} {xs : List Int} (h : Row w g sz len xs) (j : Nat) (x : Int) : Row (w.setCell ⟨g, j, none⟩ (.int .u8 x)) g sz len (xs.set j x) := by
  obtain ⟨cur, hg, hs, ht⟩ := h
  refine ⟨_, block_set hg _, by simpa using hs, ?_⟩
  rw [Array.toList_setIfInBounds, List.take_set, ht, List.map_set]
theorem Row.same {w w' : World} {g sz len : Nat} {xs : List Int} (h : Row w g sz len xs) (e : w'.heap[g]? = w.heap[g]?) : Row w' g sz len xs := by
  obtain ⟨cur, hg, hs, ht⟩ := h
  exact ⟨cur, e.trans hg, hs, ht⟩

/-- What the loop keeps. -/
def Mixed (w : World) (g sz len : Nat) (xs gs : List Int) (p q : Nat) (gb go_ : Nat) (i : Nat) (w' : World) : Prop :=
  Row w' g sz len (mix xs gs p q i) ∧ Keeps (fun k => k = g) w w' ∧ ∀ j x, gs[j]? = some x → w'.cell? ⟨gb, go_ + j, none⟩ = some (.int .u8 x)

theorem Mixed.step {w wr : World} {g sz len p q gb go_ i j : Nat} {xs gs : List Int} {x y : Int} (h : Mixed w g sz len xs gs p q gb go_ i wr) (hne : gb ≠ g) (hj : j = p + i) (hx : xs[j]? = some x) (hy : gs[q + i]? = some y) :
    Mixed w g sz len xs gs p q gb go_ (i + 1) (wr.setCell ⟨g, j, none⟩ (.int .u8 (bits .xor .u8 x y))).drew := by
  subst hj
  obtain ⟨h1, h2, h3⟩ := h
  refine ⟨?_, (h2.setCell (p := ⟨g, p + i, none⟩) (fun _ => rfl) _).drew, ?_⟩
  · have e : mix xs gs p q (i + 1) = (mix xs gs p q i).set (p + i) (bits .xor .u8 x y) := by
      simp only [mix, List.getD_eq_getElem?_getD, hx, hy]
      rfl
    rw [e]
    exact (h1.set (p + i) _).same rfl
  · intro j z hz
    have k := h3 j z hz
    rw [← k]
    exact World.cell?_of_block (w := wr) (Below.heap_setCell _ _ _ _ hne)

set_option maxHeartbeats 400000 in
theorem xorEnd_some (w : World) (g off nb c gb go_ ng d k len sz : Nat) (xs gs : List Int) (hrow : Row w g sz len xs) (hlen : xs.length = len) (hoff : off + nb = len) (hc : nb ≤ c) (hsz : len ≤ 16777216)
    (hg : ∀ j x, gs[j]? = some x → w.cell? ⟨gb, go_ + j, none⟩ = some (.int .u8 x)) (hgl : gs.length = ng) (hng : ng ≤ maxLen) (hd : ng ≤ d) (hne : gb ≠ g) (hk : (k = nb ∧ nb ≤ ng) ∨ (k = ng ∧ ng < nb)) (hk0 : 0 < k) :
    Calls Tryd.prog 36 #[.slice (some ⟨g, off, none⟩) nb c, .slice (some ⟨gb, go_, none⟩) ng d] w fun e w' => e = .returned (.tuple #[]) ∧
      Mixed w g sz len xs gs (len - k) (ng - k) gb go_ k w' := by
  unfold maxLen at hng
  rcases hk with ⟨rfl, hkl⟩ | ⟨rfl, hkl⟩
  · have HM := Lib.hid (show Mixed w g sz len xs gs (len - k) (ng - k) gb go_ 0 w from ⟨hrow, Keeps.refl _ _, hg⟩)
    have HL := Lib.hid hlen
    have HG := Lib.hid hgl
    have HO := Lib.hid hoff
    have ho : off ≤ 16777216 := by omega
    have hkk : k ≤ 16777216 := by omega
    clear hrow hg hlen hgl hoff
    go_enter Tryd.func36, Tryd.ntmps36
    go_wp2
    go_quiet (fail)
    go_wp2
    go_loopw [24] (fun cnt wr => ∃ i : Nat, i ≤ k ∧ cnt = .int .i64 i ∧ Mixed w g sz len xs gs (len - k) (ng - k) gb go_ i wr) (fun cnt _ => k - (intOf cnt).toNat)
    case atStart => exact ⟨0, Nat.zero_le _, rfl, HM.out.1, HM.out.2.1.drewN _, HM.out.2.2⟩
    case round =>
      obtain ⟨i, hi, rfl, hm⟩ := hrel
      have M := Lib.hid hm
      clear hm
      by_cases hlt : i < k
      · obtain ⟨x, hx⟩ : ∃ x, xs[off + i]? = some x := by
          have h1 := HL.out
          have h2 := HO.out
          exact ⟨_, List.getElem?_eq_getElem (by omega)⟩
        obtain ⟨y, hy⟩ : ∃ y, gs[ng - k + i]? = some y := by
          have h1 := HG.out
          exact ⟨_, List.getElem?_eq_getElem (by omega)⟩
        have c1 : wr.cell? ⟨g, off + i, none⟩ = some (.int .u8 x) := M.out.1.cell (by rw [mix_ahead _ _ _ _ _ _ (Or.inr (by have := HO.out; omega))]; exact hx)
        have c2 : wr.cell? ⟨gb, go_ + (ng - k) + i, none⟩ = some (.int .u8 y) := by rw [Nat.add_assoc]; exact M.out.2.2 _ _ hy
        have f1 : wr.frozen? ⟨g, off + i, none⟩ = false := M.out.1.free _
        have hX := Lib.hid hx
        have hY := Lib.hid hy
        clear hx hy
        go_wp2
        go_region
        go_wp2
        go_roundw
        case rel =>
          refine ⟨i + 1, hlt, by go_num, ?_⟩
          exact M.out.step hne (by have := HO.out; omega) hX.out hY.out
        case measure => simp [intOf]; omega
      · obtain rfl : i = k := by omega
        go_wp2
        go_end0
        exact ⟨rfl, M.out⟩
  · have HM := Lib.hid (show Mixed w g sz len xs gs (len - k) (k - k) gb go_ 0 w from ⟨hrow, Keeps.refl _ _, hg⟩)
    have HL := Lib.hid hlen
    have HG := Lib.hid hgl
    have HO := Lib.hid hoff
    have ho : off ≤ 16777216 := by omega
    have hkk : nb ≤ 16777216 := by omega
    clear hrow hg hlen hgl hoff
    go_enter Tryd.func36, Tryd.ntmps36
    go_wp2
    go_quiet (fail)
    go_wp2
    go_loopw [24] (fun cnt wr => ∃ i : Nat, i ≤ k ∧ cnt = .int .i64 i ∧ Mixed w g sz len xs gs (len - k) (k - k) gb go_ i wr) (fun cnt _ => k - (intOf cnt).toNat)
    case atStart => exact ⟨0, Nat.zero_le _, rfl, HM.out.1, HM.out.2.1.drewN _, HM.out.2.2⟩
    case round =>
      obtain ⟨i, hi, rfl, hm⟩ := hrel
      have M := Lib.hid hm
      clear hm
      by_cases hlt : i < k
      · obtain ⟨x, hx⟩ : ∃ x, xs[off + (nb - k) + i]? = some x := by
          have h1 := HL.out
          have h2 := HO.out
          exact ⟨_, List.getElem?_eq_getElem (by omega)⟩
        obtain ⟨y, hy⟩ : ∃ y, gs[k - k + i]? = some y := by
          have h1 := HG.out
          exact ⟨_, List.getElem?_eq_getElem (by omega)⟩
        have c1 : wr.cell? ⟨g, off + (nb - k) + i, none⟩ = some (.int .u8 x) := M.out.1.cell (by rw [mix_ahead _ _ _ _ _ _ (Or.inr (by have := HO.out; omega))]; exact hx)
        have c2 : wr.cell? ⟨gb, go_ + i, none⟩ = some (.int .u8 y) := M.out.2.2 _ _ (by rw [← hy]; congr 1; omega)
        have f1 : wr.frozen? ⟨g, off + (nb - k) + i, none⟩ = false := M.out.1.free _
        have hX := Lib.hid hx
        have hY := Lib.hid hy
        clear hx hy
        go_wp2
        go_region
        go_wp2
        go_roundw
        case rel =>
          refine ⟨i + 1, hlt, by go_num, ?_⟩
          exact M.out.step hne (by have := HO.out; omega) hX.out hY.out
        case measure => simp [intOf]; omega
      · obtain rfl : i = k := by omega
        go_wp2
        go_end0
        exact ⟨rfl, M.out⟩
end Go.Proofs.YthddjfaeacmlhaaDoor.Re
