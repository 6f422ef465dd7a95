/- Steps that came in; a write, whatever comes of it. -/
import Derived.Test.YtgonpaofickffaaTX
import Derived.Deep.Slices
import Derived.OpenShut
import Derived.ChangeOld
import Derived.ProofKit
namespace Go.Proofs.Ytgonpaofickffaa
open Go.RowKit Go.Maps
set_option linter.unusedVariables false

/-- A step, as it came in. -/
structure Op where
  Kind : Int
  N : Int
  X : Int
  Y : Int
  W : Int
  H : Int
  V : Int
def I64 (z : Int) : Prop := -9223372036854775808 ≤ z ∧ z ≤ 9223372036854775807
def Op.fit (x : Op) : Prop := I64 x.Kind ∧ I64 x.N ∧ I64 x.X ∧ I64 x.Y ∧ I64 x.W ∧ I64 x.H ∧ I64 x.V
/-- One of them in memory. -/
def OneOp (w : World) (b o : Nat) (x : Op) : Prop :=
  w.cell? ⟨b, o, none⟩ = some (.int .i64 x.Kind) ∧ w.cell? ⟨b, o + 1, none⟩ = some (.int .i64 x.N) ∧ w.cell? ⟨b, o + 2, none⟩ = some (.int .i64 x.X) ∧ w.cell? ⟨b, o + 3, none⟩ = some (.int .i64 x.Y) ∧ w.cell? ⟨b, o + 4, none⟩ = some (.int .i64 x.W) ∧ w.cell? ⟨b, o + 5, none⟩ = some (.int .i64 x.H) ∧ w.cell? ⟨b, o + 6, none⟩ = some (.int .i64 x.V) ∧ x.fit
/-- All of them in memory. -/
def Ops (w : World) (a : Option Addr) (len : Nat) (xs : List Op) : Prop := xs.length = len ∧ ∀ i x, xs[i]? = some x → ∃ b off, a = some ⟨b, off, none⟩ ∧ OneOp w b (off + i * 7) x
theorem Ops.later {w w' : World} {a : Option Addr} {len : Nat} {xs : List Op} (h : Ops w a len xs) (k : Keeps none' w w') : Ops w' a len xs := by
  obtain ⟨h1, h2⟩ := h
  refine ⟨h1, fun i x hx => ?_⟩
  obtain ⟨b, off, e, c0, c1, c2, c3, c4, c5, c6, r⟩ := h2 i x hx
  have up : ∀ p v, w.cell? p = some v → w'.cell? p = some v := fun p v hv => (World.cell?_of_block (w := w) (k.later _ (World.block_lt_of_cell? w _ hv))).trans hv
  exact ⟨b, off, e, up _ _ c0, up _ _ c1, up _ _ c2, up _ _ c3, up _ _ c4, up _ _ c5, up _ _ c6, r⟩
theorem Ops.at {w : World} {a : Option Addr} {n i : Nat} {xs : List Op} (h : Ops w a n xs) (hi : i < n) : ∃ b off x, a = some ⟨b, off, none⟩ ∧ xs[i]? = some x ∧ OneOp w b (off + i * 7) x := by
  have hl : i < xs.length := by rw [h.1]; exact hi
  obtain ⟨b, off, e, h2⟩ := h.2 i xs[i] (List.getElem?_eq_getElem hl)
  exact ⟨b, off, xs[i], e, List.getElem?_eq_getElem hl, h2⟩

/-- Plane k alone has been written. -/
structure Mod (B : Nat) (S S' : St) (k : Nat) (p p' : Pl) : Prop where
  A : S'.A = S.A
  cap : S'.cap = S.cap
  ps : S'.ps = S.ps.set k p'
  pb : p'.pb = p.pb
  W : p'.W = p.W
  H : p'.H = p.H
  pix : ∀ (m : Nat) q, m ≠ k → S.ps[m]? = some q → ∀ i j, pixAt S' q i j = pixAt S q i j
  foot : ∀ b, Foot S' b → Foot S b ∨ B ≤ b
theorem set_self {l : List Pl} {k : Nat} {p : Pl} (hk : l[k]? = some p) : l = l.set k p := by
  refine List.ext_getElem? (fun m => ?_)
  rw [List.getElem?_set]
  split
  · rename_i e
    subst e
    rw [hk, if_pos (List.getElem?_eq_some_iff.1 hk).1]
  · rfl
theorem Mod.refl {S : St} {k : Nat} {p : Pl} (hk : S.ps[k]? = some p) (B : Nat) : Mod B S S k p p := ⟨rfl, rfl, set_self hk, rfl, rfl, rfl, fun _ _ _ _ _ _ => rfl, fun _ h => .inl h⟩
theorem Mod.of {B B' : Nat} {S S' : St} {k : Nat} {p p' : Pl} {ds : List Plc} {xf xt yf yt v : Nat} (h : Wrote B' S S' k p ds xf xt yf yt v p') (hk : S.ps[k]? = some p) (hB : B ≤ B') : Mod B S S' k p p' :=
  ⟨h.A, h.cap, h.ps, h.pb, h.W, h.H, h.pix, fun b hb => (h.foot hk hb).imp id (fun h => Nat.le_trans hB h)⟩
theorem Mod.px {B : Nat} {S S' : St} {k m : Nat} {p p' q : Pl} (h : Mod B S S' k p p') (hm : m ≠ k) (hq : S.ps[m]? = some q) (x y : Nat) : px S' q x y = px S q x y := by
  rw [px_pixAt, px_pixAt, h.pix m q hm hq]
theorem Mod.low {B : Nat} {S S' : St} {k C : Nat} {p p' : Pl} (h : Mod B S S' k p p') (hl : Low S C) (hC : C ≤ B) : Low S' C := by
  intro b hb
  rcases h.foot b hb with h1 | h1
  · exact hl b h1
  · omega
theorem Mod.here {B : Nat} {S S' : St} {k : Nat} {p p' : Pl} (h : Mod B S S' k p p') (hk : S.ps[k]? = some p) : S'.ps[k]? = some p' := by
  rw [h.ps, List.getElem?_set_self (List.getElem?_eq_some_iff.1 hk).1]
/-- What a write leaves, whatever it answers. -/
def Did (w : World) (S : St) (k : Nat) (p : Pl) (e : Ending) (w' : World) : Prop := ∃ c S' p', e = .returned (.int .i64 c) ∧ Mod w.heap.size S S' k p p' ∧ Rep w' S' ∧ Keeps (Foot S) w w'
theorem did_of_wr {w w' : World} {S : St} {k : Nat} {p : Pl} {xf xt yf yt v : Nat} {e : Ending} (h : Rep w S) (hk : S.ps[k]? = some p) (hw : Wr w S k p xf xt yf yt v e w') : Did w S k p e w' := by
  rcases hw with ⟨rfl, hK, _⟩ | ⟨rfl, w0, ds, hK, _, _, _, S', p', hW, hR, hK2⟩
  · exact ⟨_, S, p, rfl, Mod.refl hk _, h.later hK, hK.mono (fun _ _ h => h.elim)⟩
  · exact ⟨_, S', p', rfl, Mod.of hW hk hK.size, hR, (hK.mono (fun _ _ h => h.elim) : Keeps (Foot S) w w0).trans hK2 (fun _ _ h => h)⟩
theorem set_did (w : World) (S : St) (h : Rep w S) (k : Nat) (p : Pl) (hk : S.ps[k]? = some p) (x y v : Int) :
    Calls Try.prog 16 #[.pointer (some ⟨p.pb, 0, none⟩), .int .i64 x, .int .i64 y, .int .i64 v] w (Did w S k p) := by
  by_cases hi : 0 ≤ x ∧ x < p.W ∧ 0 ≤ y ∧ y < p.H
  · by_cases hv : 0 ≤ v ∧ v ≤ 4294967295
    · obtain ⟨x, rfl⟩ := Int.eq_ofNat_of_zero_le hi.1
      obtain ⟨y, rfl⟩ := Int.eq_ofNat_of_zero_le hi.2.2.1
      obtain ⟨v, rfl⟩ := Int.eq_ofNat_of_zero_le hv.1
      exact (set_wr w S h k p hk x y v (by omega) (by omega) (by omega)).mono (fun e w' hw => did_of_wr h hk hw)
    · exact (set_value w S h k p hk x y v hi hv).mono (fun e w' ⟨h1, h2⟩ => ⟨_, S, p, h1, Mod.refl hk _, h2 ▸ h, h2 ▸ Keeps.refl _ _⟩)
  · exact (set_out w S h k p hk x y v hi).mono (fun e w' ⟨h1, h2⟩ => ⟨_, S, p, h1, Mod.refl hk _, h2 ▸ h, h2 ▸ Keeps.refl _ _⟩)
theorem fill_did (w : World) (S : St) (h : Rep w S) (k : Nat) (p : Pl) (hk : S.ps[k]? = some p) (x y n m v : Int) (hx : I64 x) (hy : I64 y) :
    Calls Try.prog 17 #[.pointer (some ⟨p.pb, 0, none⟩), .int .i64 x, .int .i64 y, .int .i64 n, .int .i64 m, .int .i64 v] w (Did w S k p) := by
  by_cases hv : 0 ≤ v ∧ v ≤ 4294967295
  · obtain ⟨v, rfl⟩ := Int.eq_ofNat_of_zero_le hv.1
    obtain ⟨xf, xt, yf, yt, -, -, C⟩ := fill_any17 w S h k p hk x y n m v (by omega) hx.1 hx.2 hy.1 hy.2
    exact C.mono (fun e w' hw => did_of_wr h hk hw)
  · exact (fill_no w _ x y n m v hv).mono (fun e w' ⟨h1, h2⟩ => ⟨_, S, p, h1, Mod.refl hk _, h2 ▸ h, h2 ▸ Keeps.refl _ _⟩)
/-- A step is done, its answer thrown away. -/
def Stepped (w : World) (S : St) (k : Nat) (p : Pl) (e : Ending) (w' : World) : Prop := ∃ S' p', e = .returned (.tuple #[]) ∧ Mod w.heap.size S S' k p p' ∧ Rep w' S' ∧ Keeps (Foot S) w w'
set_option maxRecDepth 100000 in
set_option maxHeartbeats 1600000 in
theorem do_any (w : World) (S : St) (h : Rep w S) (k : Nat) (p : Pl) (hk : S.ps[k]? = some p) (x : Op) (hx : x.fit) :
    Calls Try.prog 15 #[.pointer (some ⟨p.pb, 0, none⟩), .agg #[.int .i64 x.Kind, .int .i64 x.N, .int .i64 x.X, .int .i64 x.Y, .int .i64 x.W, .int .i64 x.H, .int .i64 x.V]] w (Stepped w S k p) := by
  have KA := Lib.hid ((Keeps.refl none' w).alloc (.cells #[.int .i64 x.Kind, .int .i64 x.N, .int .i64 x.X, .int .i64 x.Y, .int .i64 x.W, .int .i64 x.H, .int .i64 x.V] 39))
  have hR := h.later ((Keeps.refl none' w).alloc (.cells #[.int .i64 x.Kind, .int .i64 x.N, .int .i64 x.X, .int .i64 x.Y, .int .i64 x.W, .int .i64 x.H, .int .i64 x.V] 39))
  have D1 := Lib.hid (set_did _ S hR k p hk x.X x.Y x.V)
  have D2 := Lib.hid (fill_did _ S hR k p hk x.X x.Y x.W x.H x.V hx.2.2.1 hx.2.2.2.1)
  have FIN : ∀ e w', Did (w.alloc (.cells #[.int .i64 x.Kind, .int .i64 x.N, .int .i64 x.X, .int .i64 x.Y, .int .i64 x.W, .int .i64 x.H, .int .i64 x.V] 39)) S k p e w' → ∃ c S' p', e = .returned (.int .i64 c) ∧ Mod w.heap.size S S' k p p' ∧ Rep w' S' ∧ Keeps (Foot S) w w' := by
    rintro e w' ⟨c, S', p', e1, hm, hr, hk2⟩
    exact ⟨c, S', p', e1, ⟨hm.A, hm.cap, hm.ps, hm.pb, hm.W, hm.H, hm.pix, fun b hb => (hm.foot b hb).imp id (fun hle => Nat.le_trans KA.out.size hle)⟩, hr, (KA.out.mono (fun _ _ h => h.elim) : Keeps (Foot S) w _).trans hk2 (fun _ _ h => h)⟩
  have FIN := Lib.hid FIN
  clear h hR
  by_cases h1 : x.Kind = 1
  · have t : (x.Kind == 1) = true := by simpa using h1
    have HX := Lib.hid hx
    clear h1 hx
    generalize x.Kind = kind at *
    go_enter Try.func15, Try.ntmps15
    go_wp2_with fail
    refine D1.out.mono ?_
    rintro e w' hd
    obtain ⟨c, S', p', rfl, hm, hr, hk2⟩ := FIN.out e w' hd
    have Y := Lib.hid (And.intro hm (And.intro hr hk2))
    clear hd hm hr hk2
    go_wp2_with fail
    go_end0
    exact ⟨S', p', rfl, Y.out⟩
  · have t : (x.Kind == 1) = false := by simpa using h1
    have HX := Lib.hid hx
    clear h1 hx
    generalize x.Kind = kind at *
    go_enter Try.func15, Try.ntmps15
    go_wp2_with fail
    refine D2.out.mono ?_
    rintro e w' hd
    obtain ⟨c, S', p', rfl, hm, hr, hk2⟩ := FIN.out e w' hd
    have Y := Lib.hid (And.intro hm (And.intro hr hk2))
    clear hd hm hr hk2
    go_wp2_with fail
    go_end0
    exact ⟨S', p', rfl, Y.out⟩
end Go.Proofs.Ytgonpaofickffaa
