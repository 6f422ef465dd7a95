/- What the laws share: bytes that came in, the plain model of a reel that isn't armed. -/
import Derived.Test.YtccfjpjhkaicgaaK
import Derived.OpenShut
namespace Go.Proofs.Ytccfjpjhkaicgaa
open Go.RowKit

theorem src_of_row {w : World} {a : Option Addr} {len cap : Nat} {zs : List Int}
    (h : (a = none ∧ len = 0 ∧ cap = 0 ∧ zs = []) ∨ ∃ x, a = some x ∧ len ≤ cap ∧ cap ≤ maxLen ∧ zs.length = cap ∧ (∀ i, i < zs.length → w.cell? (x.add i) = some (.int .u8 (zs.getD i 0))) ∧ ∀ n ∈ zs, (Lit.int .u8 n).wf = true) :
    Src w a len (zs.take len) ∧ Fits a len cap := by
  rcases h with ⟨rfl, rfl, rfl, rfl⟩ | ⟨x, rfl, h1, h2, h3, h4, h5⟩
  · exact ⟨⟨rfl, by simp, Or.inl ⟨rfl, rfl⟩⟩, ⟨Nat.le_refl _, Nat.zero_le _, fun _ => rfl⟩⟩
  · refine ⟨⟨by rw [List.length_take]; omega, ?_, Or.inr ⟨x, rfl, ?_⟩⟩, h1, h2, fun e => by cases e⟩
    · intro y hy
      exact bounds_u8 (h5 y (List.mem_of_mem_take hy))
    · intro j u hj
      rw [List.getElem?_map, List.getElem?_take] at hj
      split at hj
      · rename_i hlt
        have hz : zs[j]? = some (zs[j]'(by omega)) := List.getElem?_eq_getElem (by omega)
        rw [hz] at hj
        rw [h4 j (by omega), List.getD_eq_getElem?_getD, hz]
        exact hj
      · cases hj

/-- Bytes that came in lie below the heap's size. -/
theorem Src.block {w : World} {a : Option Addr} {n : Nat} {ys : List Int} (h : Src w a n ys) (hn : 0 < n) : ∀ ad, a = some ad → ad.block < w.heap.size := by
  rintro ad rfl
  obtain ⟨h1, _, h2⟩ := h
  rcases h2 with ⟨h2, _⟩ | ⟨ad', e, hc⟩
  · cases h2
  · cases e
    have e1 : ys[0]? = some (ys[0]'(by omega)) := List.getElem?_eq_getElem (by omega)
    have e2 := hc 0 _ (by rw [List.getElem?_map, e1]; rfl)
    have e3 := World.block_lt_of_cell? w _ e2
    simpa [Addr.add] using e3

def loose (cap : Int) (xs : List Int) (safe : Int) : M := { cap := cap, xs := xs, safe := safe, left := -1, down := false }
theorem new_loose (cap : Int) : M.new cap = loose cap [] 0 := rfl
theorem append_loose (cap safe : Int) (xs ys : List Int) (h : (xs.length : Int) + ys.length ≤ cap) : (loose cap xs safe).append ys = (0, loose cap (xs ++ ys) safe) := by
  have e : ¬ cap - (xs.length : Int) < ys.length := by omega
  simp [M.append, loose, M.spend, e]
theorem sync_loose (cap safe : Int) (xs : List Int) : (loose cap xs safe).sync = (0, loose cap xs xs.length) := by
  simp [M.sync, loose, M.spend]
theorem cut_loose (cap safe : Int) (xs : List Int) (k : Nat) (h : k ≤ xs.length) : (loose cap xs safe).cut k = (0, loose cap (xs.take k) (min safe k)) := by
  have e1 : ¬ ((k : Int) < 0 ∨ (xs.length : Int) < k) := by omega
  unfold M.cut
  rw [if_neg (by simp [loose]), if_neg (by exact e1), if_neg (by simp [loose])]
  simp [loose, M.spend]

theorem crash_loose (m : M) (keep : Int) (gs : List Int) : m.crash keep gs = loose m.cap (m.crash keep gs).xs (m.crash keep gs).safe := rfl

theorem read_down_st {w W : World} {R : Nat} {m : M} (h : St w R m W) (hd : m.down = true) (at_ n : Int) :
    Calls Try.prog 16 #[.pointer (some ⟨R, 0, none⟩), .int .i64 at_, .int .i64 n] W fun e W' => e = .returned (.tuple #[.slice none 0 0, .int .i64 11]) ∧ W = W' := by
  obtain ⟨D, h1, h2⟩ := h
  exact read_down W _ R D m h1 at_ n hd

theorem strOf_append (xs ys : List Int) : strOfNums (xs ++ ys) = strOfNums xs ++ strOfNums ys := by
  apply ByteArray.ext
  simp [strOfNums, ByteArray.data_append]

theorem src_take {w : World} {a : Option Addr} {n k : Nat} {ys : List Int} (h : Src w a n ys) (hk : k ≤ n) : Src w a k (ys.take k) := by
  obtain ⟨h1, h2, h3⟩ := h
  refine ⟨by rw [List.length_take]; omega, fun y hy => h2 y (List.mem_of_mem_take hy), ?_⟩
  rcases h3 with ⟨e, h3⟩ | ⟨ad, e, h3⟩
  · exact Or.inl ⟨e, by omega⟩
  · refine Or.inr ⟨ad, e, fun j u hj => h3 j u ?_⟩
    rw [List.getElem?_map, List.getElem?_take] at hj
    rw [List.getElem?_map]
    split at hj
    · exact hj
    · cases hj
end Go.Proofs.Ytccfjpjhkaicgaa
