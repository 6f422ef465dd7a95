/- Tiles counted: a plane filled with nine, and one pixel of a snapshot. -/
import Derived.Test.YtgonpaofickffaaUC
namespace Go.Proofs.Ytgonpaofickffaa
open Go.RowKit Go.Maps
set_option linter.unusedVariables false

def grid : List (Nat × Nat) := [(0, 0), (0, 1), (0, 2), (1, 0), (1, 1), (1, 2), (2, 0), (2, 1), (2, 2)]
theorem mem_grid (i j : Nat) : (i, j) ∈ grid ↔ i < 3 ∧ j < 3 := by
  simp only [grid, List.mem_cons, Prod.mk.injEq, List.not_mem_nil, or_false]
  omega
theorem grid_nodup : grid.Nodup := by decide
theorem nine_le {l : List (Nat × Nat)} (nd : l.Nodup) (h : ∀ i j, (i, j) ∈ l → i < 3 ∧ j < 3) : l.length ≤ 9 :=
  nd.length_le_of_subset (l₂ := grid) (fun q hq => (mem_grid q.1 q.2).2 (h q.1 q.2 hq))
theorem nine {l : List (Nat × Nat)} (nd : l.Nodup) (h : ∀ i j, (i, j) ∈ l ↔ i < 3 ∧ j < 3) : l.length = 9 :=
  Nat.le_antisymm (nine_le nd (fun i j hq => (h i j).1 hq)) (grid_nodup.length_le_of_subset (l₂ := l) (fun q hq => (h q.1 q.2).2 ((mem_grid q.1 q.2).1 hq)))
theorem plc_nodup {l : List Plc} (h : l.Nodup) : (l.map (·.1)).Nodup := List.Pairwise.map (fun q : Plc => q.1) (fun a b hab e => hab (Subtype.ext e)) h
theorem plc_mem {l : List Plc} {i j : Nat} : (i, j) ∈ l.map (·.1) ↔ On l i j := by
  rw [List.mem_map]
  constructor
  · rintro ⟨⟨⟨a, b⟩, hq⟩, hm, e⟩
    simp only [Prod.mk.injEq] at e
    obtain ⟨rfl, rfl⟩ := e
    exact ⟨hq, hm⟩
  · rintro ⟨hq, hm⟩
    exact ⟨_, hm, rfl⟩
theorem plc_nine_le {l : List Plc} (nd : l.Nodup) (h : ∀ q ∈ l, q.1.1 < 3 ∧ q.1.2 < 3) : l.length ≤ 9 := by
  have := nine_le (plc_nodup nd) (fun i j hq => by
    obtain ⟨hp, hm⟩ := plc_mem.1 hq
    exact h _ hm)
  rwa [List.length_map] at this
theorem plc_nine {l : List Plc} (nd : l.Nodup) (h : ∀ i j, On l i j ↔ i < 3 ∧ j < 3) : l.length = 9 := by
  have := nine (plc_nodup nd) (fun i j => plc_mem.trans (h i j))
  rwa [List.length_map] at this
theorem needs_all {S : St} {p : Pl} {ds : List Plc} (h : ∀ q ∈ ds, ¬ aloneP S p q.1.1 q.1.2) : needs S p ds = ds.length := by
  unfold needs
  exact List.countP_eq_length.2 (fun q hq => by simpa using h q hq)
theorem chg_bare {S : St} {p : Pl} (hT : ∀ i j, p.T i j = none) (i j : Nat) : Chg S p 0 40 0 40 9 i j ↔ i < 3 ∧ j < 3 := by
  unfold Chg InArea pixAt
  rw [hT]
  constructor
  · rintro ⟨-, -, x, y, hA, -⟩
    omega
  · rintro ⟨h1, h2⟩
    exact ⟨by omega, by omega, 0, 0, by omega, by simp⟩
theorem chg_pixel {S : St} {p : Pl} {x y : Nat} (v : Nat) (hx : x < 40) (hy : y < 40) (i j : Nat) : Chg S p x (x + 1) y (y + 1) v i j ↔ i = x / 16 ∧ j = y / 16 ∧ px S p x y ≠ v := by
  unfold Chg InArea
  rw [px_pixAt]
  constructor
  · rintro ⟨h1, h2, a, b, hA, hne⟩
    obtain rfl : i = x / 16 := by omega
    obtain rfl : j = y / 16 := by omega
    obtain rfl : a = x % 16 := by omega
    obtain rfl : b = y % 16 := by omega
    exact ⟨rfl, rfl, hne⟩
  · rintro ⟨rfl, rfl, hne⟩
    exact ⟨by omega, by omega, x % 16, y % 16, by omega, hne⟩
theorem alone_bare {S : St} {p : Pl} (hT : ∀ i j, p.T i j = none) (i j : Nat) : ¬ aloneP S p i j := by
  rintro ⟨t, e, -⟩
  rw [hT] at e
  cases e
theorem clip40 : clip 0 40 ((40 : Nat) : Int) = (0, 40) := by decide

/-- A bare plane of forty by forty, filled with nine. -/
theorem fill_nine (w : World) (S : St) (h : Rep w S) (p : Pl) (hk : S.ps[0]? = some p) (hT : ∀ i j, p.T i j = none) (hW : p.W = 40) (hH : p.H = 40) (hf : S.free = 30) :
    Calls Try.prog 17 #[.pointer (some ⟨p.pb, 0, none⟩), .int .i64 0, .int .i64 0, .int .i64 40, .int .i64 40, .int .i64 9] w fun e w' =>
      e = .returned (.int .i64 0) ∧ ∃ S' p', Mod w.heap.size S S' 0 p p' ∧ Rep w' S' ∧ Keeps (Foot S) w w' ∧ S'.free = 21 ∧ p'.L.length = 9 ∧ ∀ x y, x < 40 → y < 40 → px S' p' x y = 9 := by
  obtain ⟨xf, xt, yf, yt, hX, hY, C⟩ := fill_any17 w S h 0 p hk 0 0 40 40 9 (by omega) (by omega) (by omega) (by omega) (by omega)
  rw [hW, clip40, Prod.mk.injEq] at hX
  rw [hH, clip40, Prod.mk.injEq] at hY
  obtain rfl : xf = 0 := by omega
  obtain rfl : xt = 40 := by omega
  obtain rfl : yf = 0 := by omega
  obtain rfl : yt = 40 := by omega
  refine C.mono ?_
  rintro e w' (⟨rfl, -, l, nd, hl, hlt⟩ | ⟨rfl, w0, ds, hK, nd, hds, hn, S', p', hWr, hR, hK2⟩)
  · have := plc_nine_le nd (fun q hq => (chg_bare hT _ _).1 (hl q hq).1)
    omega
  · have hon : ∀ i j, On ds i j ↔ i < 3 ∧ j < 3 := fun i j => (hds i j).trans (chg_bare hT i j)
    have hne : needs S p ds = 9 := (needs_all (fun q _ => alone_bare hT _ _)).trans (plc_nine nd hon)
    have hfr := hWr.freed hn
    have hm := Mod.of hWr hk hK.size
    refine ⟨rfl, S', p', hm, hR, (hK.mono (fun _ _ h => h.elim) : Keeps (Foot S) w w0).trans hK2 (fun _ _ h => h), by omega, ?_, fun x y hx hy => (hWr.px (fun i j => hds i j) x y (by omega) (by omega)).1 (by unfold Rect; omega)⟩
    have hk' := hm.here hk
    have tab := (hR.plane 0 p' hk').2.1
    refine nine tab.nd (fun i j => (tab.ls i j).trans ⟨fun hne => ?_, fun hij => ?_⟩)
    · by_cases ho : On ds i j
      · exact (hon i j).1 ho
      · exact absurd ((hWr.out i j ho).trans (hT i j)) hne
    · obtain ⟨t, e, -⟩ := hWr.on i j ((hon i j).2 hij)
      rw [e]
      exact fun hc => by cases hc

/-- One pixel of a plane whose tile there is shared. -/
theorem set_shared (w : World) (S : St) (h : Rep w S) (k : Nat) (p : Pl) (hk : S.ps[k]? = some p) (hW : p.W = 40) (hH : p.H = 40) (x y v : Nat) (hx : x < 40) (hy : y < 40) (hv : v ≤ 4294967295) (hf : 0 < S.free) (ha : ¬ aloneP S p (x / 16) (y / 16)) :
    Calls Try.prog 16 #[.pointer (some ⟨p.pb, 0, none⟩), .int .i64 (x : Int), .int .i64 (y : Int), .int .i64 (v : Int)] w fun e w' =>
      e = .returned (.int .i64 0) ∧ ∃ S' p', Mod w.heap.size S S' k p p' ∧ Rep w' S' ∧ Keeps (Foot S) w w' ∧ S'.free = (if px S p x y = v then S.free else S.free - 1) ∧ px S' p' x y = v := by
  refine (set_wr w S h k p hk x y v (by omega) (by omega) hv).mono ?_
  have one : ∀ l : List Plc, l.Nodup → (∀ q ∈ l, Chg S p x (x + 1) y (y + 1) v q.1.1 q.1.2) → l.length ≤ 1 := by
    intro l nd hl
    have h2 : l.map (·.1) ⊆ [(x / 16, y / 16)] := by
      intro q hq
      obtain ⟨r, hr, rfl⟩ := List.mem_map.1 hq
      obtain ⟨h1, h2, -⟩ := (chg_pixel v hx hy _ _).1 (hl r hr)
      rw [List.mem_singleton, ← h1, ← h2]
    have := (plc_nodup nd).length_le_of_subset h2
    simpa using this
  rintro e w' (⟨rfl, -, l, nd, hl, hlt⟩ | ⟨rfl, w0, ds, hK, nd, hds, hn, S', p', hWr, hR, hK2⟩)
  · have := one l nd (fun q hq => (hl q hq).1)
    omega
  · have hfr := hWr.freed hn
    have hmem : ∀ q ∈ ds, Chg S p x (x + 1) y (y + 1) v q.1.1 q.1.2 := fun q hq => (hds _ _).1 ⟨q.2, hq⟩
    have hne : needs S p ds = ds.length := needs_all (fun q hq => by
      obtain ⟨h1, h2, -⟩ := (chg_pixel v hx hy _ _).1 (hmem q hq)
      rw [h1, h2]
      exact ha)
    refine ⟨rfl, S', p', Mod.of hWr hk hK.size, hR, (hK.mono (fun _ _ h => h.elim) : Keeps (Foot S) w w0).trans hK2 (fun _ _ h => h), ?_, (hWr.px (fun i j => hds i j) x y (by omega) (by omega)).1 (by unfold Rect; omega)⟩
    split
    · rename_i e
      have : ds = [] := List.eq_nil_iff_forall_not_mem.2 (fun q hq => ((chg_pixel v hx hy _ _).1 (hmem q hq)).2.2 e)
      rw [this] at hne hfr
      simp only [List.length_nil] at hne
      omega
    · rename_i e
      have h1 := one ds nd hmem
      obtain ⟨hq, hm⟩ := (hds (x / 16) (y / 16)).2 ((chg_pixel v hx hy _ _).2 ⟨rfl, rfl, e⟩)
      have h2 := List.length_pos_of_mem hm
      omega
end Go.Proofs.Ytgonpaofickffaa
