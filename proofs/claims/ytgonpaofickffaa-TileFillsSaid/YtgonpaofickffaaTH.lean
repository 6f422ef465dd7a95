/- Pixels: read, and one written. -/
import Derived.Test.YtgonpaofickffaaTG
import Derived.Test.YtgonpaofickffaaTC
namespace Go.Proofs.Ytgonpaofickffaa
open Go.RowKit Go.Maps
set_option linter.unusedVariables false

theorem pigeon {α β : Type} [DecidableEq β] (f : α → β) : ∀ (l : List α) (m : List β), l.Nodup → (∀ x ∈ l, ∀ y ∈ l, f x = f y → x = y) → (∀ x ∈ l, f x ∈ m) → l.length ≤ m.length
  | [], m, _, _, _ => Nat.zero_le _
  | x :: l, m, hn, hi, hm => by
    obtain ⟨h1, h2⟩ := List.nodup_cons.1 hn
    have hx : f x ∈ m := hm x (by simp)
    have := pigeon f l (m.erase (f x)) h2 (fun a ha b hb => hi a (by simp [ha]) b (by simp [hb])) (fun a ha => by
      refine (List.mem_erase_of_ne (fun e => ?_)).2 (hm a (by simp [ha]))
      have := hi a (by simp [ha]) x (by simp) e
      exact h1 (this ▸ ha))
    rw [List.length_erase_of_mem hx] at this
    have hp := List.length_pos_of_mem hx
    simp only [List.length_cons]
    omega
theorem Rep.len {w : World} {S : St} (h : Rep w S) {k : Nat} {p : Pl} (hk : S.ps[k]? = some p) : p.L.length ≤ S.live.length := by
  obtain ⟨-, ht, -⟩ := h.plane k p hk
  refine pigeon (fun q : Nat × Nat => (p.T q.1 q.2).getD 0) p.L S.live ht.nd ?_ ?_
  · rintro ⟨a, b⟩ ha ⟨c, d⟩ hc e
    have n1 := (ht.ls a b).1 ha
    have n2 := (ht.ls c d).1 hc
    obtain ⟨t, e1⟩ := Option.ne_none_iff_exists'.1 n1
    obtain ⟨u, e2⟩ := Option.ne_none_iff_exists'.1 n2
    simp only [e1, e2, Option.getD_some] at e
    subst e
    have h1 := (h.at_ k p hk a b t e1).2.1
    have h2 := (h.at_ k p hk c d t e2).2.1
    rw [h1] at h2
    exact h2
  · rintro ⟨a, b⟩ ha
    obtain ⟨t, e1⟩ := Option.ne_none_iff_exists'.1 ((ht.ls a b).1 ha)
    simp only [e1, Option.getD_some]
    exact (h.at_ k p hk a b t e1).1
/-- How many planes have the tile there; its pixels. -/
def cntAt (S : St) (p : Pl) (i j : Nat) : Nat := match p.T i j with | none => 0 | some t => cnt S.ps (i, j) t
def pixAt (S : St) (p : Pl) (i j : Nat) : Nat → Nat := match p.T i j with | none => fun _ => 0 | some t => S.pix t
theorem Rep.lookD {w : World} {S : St} (h : Rep w S) {k : Nat} {p : Pl} (hk : S.ps[k]? = some p) (i j : Nat) : TileOr w (p.T i j) (cntAt S p i j) (pixAt S p i j) := by
  have := h.look hk i j
  unfold cntAt pixAt
  cases e : p.T i j <;> rw [e] at this <;> exact this
theorem cntAt_one {S : St} {p : Pl} {i j : Nat} : cntAt S p i j = 1 ↔ aloneP S p i j := by
  unfold cntAt aloneP
  cases e : p.T i j with
  | none => simp
  | some t => simp
/-- What a call of own leaves: the tile of a place, and that it is one plane's. -/
def Owned (B : Nat) (S : St) (k : Nat) (p : Pl) (i j : Nat) (t' : Nat) (S' : St) : Prop :=
  (aloneP S p i j ∧ p.T i j = some t' ∧ S' = S) ∨ (¬ aloneP S p i j ∧ B ≤ t' ∧ S' = S.own k p i j t' (pixAt S p i j))
theorem own_any (w : World) (S : St) (h : Rep w S) (k : Nat) (p : Pl) (hk : S.ps[k]? = some p) (i j : Nat) (hi : i * 16 < p.W) (hj : j * 16 < p.H) (hroom : aloneP S p i j ∨ S.live.length < S.cap) :
    Calls Try.prog 33 #[.pointer (some ⟨p.pb, 0, none⟩), .agg #[.int .i64 (i : Int), .int .i64 (j : Int)]] w fun e w' => ∃ t' S', Owned w.heap.size S k p i j t' S' ∧ e = .returned (.pointer (some ⟨t', 0, none⟩)) ∧ Rep w' S' ∧ Keeps (Foot S) w w' := by
  have hW : p.W ≤ 32768 ∧ p.H ≤ 32768 := (h.plane k p hk).2.2
  have hL : p.L.length < 16777216 := by have := h.len hk; have := h.room; have := h.cap; omega
  cases e : p.T i j with
  | none =>
    have hna : ¬ aloneP S p i j := by rintro ⟨t, e1, -⟩; rw [e] at e1; cases e1
    refine (own_new w S h k p hk i j hi hj e (hroom.resolve_left hna) hL).mono ?_
    rintro e1 w' ⟨t', h1, rfl, h2, h3⟩
    exact ⟨t', _, Or.inr ⟨hna, h1, by unfold pixAt; rw [e]⟩, rfl, h2, h3⟩
  | some t =>
    by_cases h1 : cnt S.ps (i, j) t = 1
    · refine (own_alone w S h k p hk i j (by omega) (by omega) t e h1).mono ?_
      rintro e1 w' ⟨rfl, h2⟩
      exact ⟨t, S, Or.inl ⟨⟨t, e, h1⟩, e, rfl⟩, rfl, h.later h2, h2.mono (fun b _ h => h.elim)⟩
    · have hna : ¬ aloneP S p i j := by rintro ⟨t2, e1, e2⟩; rw [e] at e1; cases e1; exact h1 e2
      refine (own_copy w S h k p hk i j hi hj t e h1 (hroom.resolve_left hna) hL).mono ?_
      rintro e1 w' ⟨t', h1, rfl, h2, h3⟩
      exact ⟨t', _, Or.inr ⟨hna, h1, by unfold pixAt; rw [e]⟩, rfl, h2, h3⟩
theorem Owned.mono {B B' : Nat} {S S' : St} {k i j t' : Nat} {p : Pl} (h : Owned B S k p i j t' S') (hb : B' ≤ B) : Owned B' S k p i j t' S' := h.imp id (fun h => ⟨h.1, Nat.le_trans hb h.2.1, h.2.2⟩)
theorem owned_tile {w0 w : World} {S S' : St} {k i j t' : Nat} {p : Pl} (h0 : Rep w0 S) (hk : S.ps[k]? = some p) (ho : Owned w0.heap.size S k p i j t' S') (h : Rep w S') : (∃ p', S'.ps[k]? = some p' ∧ p'.T i j = some t') ∧ t' ∈ S'.live ∧ S'.home t' = (i, j) ∧ cnt S'.ps (i, j) t' = 1 := by
  rcases ho with ⟨⟨t, h1, h2⟩, h3, rfl⟩ | ⟨h1, h2, rfl⟩
  · rw [h3] at h1
    cases h1
    obtain ⟨q1, q2, -⟩ := h.at_ k p hk i j t' h3
    exact ⟨⟨p, hk, h3⟩, q1, q2, h2⟩
  · have hl : k < S.ps.length := (List.getElem?_eq_some_iff.1 hk).1
    have e : (S.own k p i j t' (pixAt S p i j)).ps[k]? = some { p with T := upd p.T i j t', L := if p.T i j = none then p.L ++ [(i, j)] else p.L } := by
      simp only [St.own]
      rw [List.getElem?_set_self hl]
    have e2 : upd p.T i j t' i j = some t' := by simp [upd]
    obtain ⟨q1, q2, -⟩ := h.at_ k _ e i j t' e2
    refine ⟨⟨_, e, e2⟩, q1, q2, ?_⟩
    have hc := cnt_set S.ps k p { p with T := upd p.T i j t', L := if p.T i j = none then p.L ++ [(i, j)] else p.L } hk (i, j) t'
    have hz : ∀ (a : Nat) q, S.ps[a]? = some q → q.T i j ≠ some t' := by
      intro a q hq e3
      have := (h0.tile t' (h0.at_ a q hq i j t' e3).1).lt
      omega
    rw [if_neg (hz k p hk), cnt_zero S.ps (i, j) t' hz] at hc
    simp only [e2, if_true] at hc
    simpa [St.own] using hc
/-- A tile painted. -/
def St.paint (S : St) (t : Nat) (g : Nat → Nat) : St := { S with pix := fun t1 => if t1 = t then g else S.pix t1 }
theorem Rep.paint {w w' : World} {S : St} (h : Rep w S) {t : Nat} (ht : t ∈ S.live) {g : Nat → Nat} (hg : ∀ k, g k ≤ 4294967295) (hT : TileAt w' t (cnt S.ps (S.home t) t) g) (hk : Keeps (fun b => b = t) w w') : Rep w' (S.paint t g) := by
  have hb : ∀ b, b < w.heap.size → b ≠ t → w'.heap[b]? = w.heap[b]? := fun b h1 h2 => hk.block b h1 h2
  have hne := h.tile_ne ht
  constructor
  · exact (hb _ (h.lt (Or.inl rfl)) hne.1.symm).trans h.arena
  · exact h.room
  · exact h.cap
  · intro k p hp
    obtain ⟨h1, h2, h3⟩ := h.plane k p hp
    exact ⟨(hb _ h1.lt (hne.2 k p hp).2.symm).trans h1, h2.keep (hb _ h2.lt (hne.2 k p hp).1.symm), h3⟩
  · exact h.at_
  · intro t1 ht1
    simp only [St.paint]
    by_cases e : t1 = t
    · subst e
      rw [if_pos rfl]
      exact hT
    · rw [if_neg e]
      exact (h.tile t1 ht1).keep (hb _ (h.tile t1 ht1).lt e)
  · exact h.used
  · exact h.nd
  · exact h.apart
  · intro t1 ht1 k
    simp only [St.paint]
    split
    · exact hg k
    · exact h.small t1 ht1 k
  · exact h.many

/-- A pixel of a plane. -/
def px (S : St) (p : Pl) (x y : Nat) : Nat := match p.T (x / 16) (y / 16) with | none => 0 | some t => S.pix t (y % 16 * 16 + x % 16)
theorem Rep.px_le {w : World} {S : St} (h : Rep w S) {k : Nat} {p : Pl} (hk : S.ps[k]? = some p) (x y : Nat) : px S p x y ≤ 4294967295 := by
  unfold px
  cases e : p.T (x / 16) (y / 16) with
  | none => exact Nat.zero_le _
  | some t => exact h.small t (h.at_ k p hk _ _ t e).1 _
theorem Rep.look_px {w : World} {S : St} (h : Rep w S) {k : Nat} {p : Pl} (hk : S.ps[k]? = some p) (x y : Nat) (hx : x ≤ 1048576) (hy : y ≤ 1048576) :
    Calls Try.prog 30 #[tileV (p.T (x / 16) (y / 16)), .int .i64 (x : Int), .int .i64 (y : Int)] w fun e w' => e = .returned (.int .u32 (px S p x y : Int)) ∧ w' = w := by
  have := at_any w _ _ _ (h.look hk (x / 16) (y / 16)) x y hx hy
  refine this.mono ?_
  rintro e w' ⟨rfl, rfl⟩
  refine ⟨?_, rfl⟩
  unfold px
  cases p.T (x / 16) (y / 16) <;> rfl
theorem enter29 : ∀ (vs : Array Value) (w : World), (callFunc 29 vs).run Try.prog w = .ok (.enter 29 vs) w := enters_of Try.func29 (by kernel_rfl) rfl
theorem enter30 : ∀ (vs : Array Value) (w : World), (callFunc 30 vs).run Try.prog w = .ok (.enter 30 vs) w := enters_of Try.func30 (by kernel_rfl) rfl
theorem at_out (w : World) (S : St) (h : Rep w S) (k : Nat) (p : Pl) (hk : S.ps[k]? = some p) (x y : Int) (ho : ¬ (0 ≤ x ∧ x < p.W ∧ 0 ≤ y ∧ y < p.H)) :
    Calls Try.prog 14 #[.pointer (some ⟨p.pb, 0, none⟩), .int .i64 x, .int .i64 y] w fun e w' => e = .returned (.int .i64 0) ∧ w' = w := by
  have C := inside_any w _ _ _ _ _ (h.plane k p hk).1 x y
  rw [decide_eq_false ho] at C
  have C := Lib.hid C
  clear h hk ho
  go_enter Try.func14, Try.ntmps14
  go_wp2_with (go_at_call 28; refine C.out.mono ?_; rintro e w' ⟨rfl, rfl⟩)
  go_ret
  exact ⟨rfl, rfl⟩
set_option maxHeartbeats 1600000 in
set_option maxRecDepth 100000 in
theorem at_in (w : World) (S : St) (h : Rep w S) (k : Nat) (p : Pl) (hk : S.ps[k]? = some p) (x y : Nat) (hx : x < p.W) (hy : y < p.H) :
    Calls Try.prog 14 #[.pointer (some ⟨p.pb, 0, none⟩), .int .i64 (x : Int), .int .i64 (y : Int)] w fun e w' => e = .returned (.int .i64 (px S p x y : Int)) ∧ Keeps none' w w' := by
  have hW : p.W ≤ 32768 ∧ p.H ≤ 32768 := (h.plane k p hk).2.2
  have C := inside_any w _ _ _ _ _ (h.plane k p hk).1 (x : Int) (y : Int)
  rw [decide_eq_true (by omega)] at C
  have C := Lib.hid C
  have CP := placeOf_any x y (by omega) (by omega)
  have CL : ∀ w', Keeps none' w w' → Calls Try.prog 30 #[tileV (p.T (x / 16) (y / 16)), .int .i64 (x : Int), .int .i64 (y : Int)] w' fun e w'' => e = .returned (.int .u32 (px S p x y : Int)) ∧ Keeps none' w w'' := fun w' hk2 =>
    ((h.later hk2).look_px hk x y (by omega) (by omega)).mono (fun e w'' h => ⟨h.1, by rw [h.2]; exact hk2⟩)
  have LK : ∀ w', Keeps none' w w' → w'.cell? ⟨p.pb, 3, none⟩ = some (.map (some p.mb)) ∧ (Instr.lookup 61 (.map (some p.mb)) (.agg #[.int .i64 ((x / 16 : Nat) : Int), .int .i64 ((y / 16 : Nat) : Int)]) false).run Try.prog w' = .ok (tileV (p.T (x / 16) (y / 16))) w' := fun w' hk2 =>
    ⟨((h.later hk2).cells hk).2.2.2, (h.later hk2).lookup hk (x / 16) (y / 16) (by omega) (by omega) 0⟩
  have hz := h.px_le hk x y
  obtain ⟨z, hzz⟩ : ∃ z, z = px S p x y := ⟨_, rfl⟩
  obtain ⟨I, hI⟩ : ∃ I, I = x / 16 := ⟨_, rfl⟩
  obtain ⟨J, hJ⟩ : ∃ J, J = y / 16 := ⟨_, rfl⟩
  obtain ⟨u, hu⟩ : ∃ u, u = tileV (p.T I J) := ⟨_, rfl⟩
  rw [← hzz] at CL hz ⊢
  rw [← hI, ← hJ] at CP CL LK
  rw [← hu] at CL LK
  have CP := Lib.hid (later_call (w1 := w) CP)
  have CL := Lib.hid CL
  have LK := Lib.hid LK
  have x3 := (LK.out w (Keeps.refl _ _)).1
  have S1 := Lib.hid (Keeps.refl none' w)
  have S2 := Lib.hid (Keeps.refl none' w).drew
  have w1z : IntKind.i64.wrap (z : Int) = (z : Int) := wrap_i64 _ (by omega) (by omega)
  clear h hk hzz hI hJ hu
  simp only [keyV] at CP
  go_enter Try.func14, Try.ntmps14
  go_wp2_with (go_at_call 28; refine C.out.mono ?_; rintro e w' ⟨rfl, rfl⟩)
  go_region_law (first
    | (refine step_call (by rfl) 29 #[.tmp 16, .tmp 17] #[3, 3] (by rfl) enter29 #[.int .i64 (x : Int), .int .i64 (y : Int)] (by rfl) (.agg #[.int .i64 (I : Int), .int .i64 (J : Int)]) _ (CP.out _ (by first | exact S2.out | exact S1.out | assumption)) ?_; intro w5 hx5; obtain ⟨x3, lk⟩ := LK.out w5 hx5)
    | (refine step_call (by rfl) 30 #[.tmp 19, .tmp 20, .tmp 21] #[68, 3, 3] (by rfl) enter30 #[u, .int .i64 (x : Int), .int .i64 (y : Int)] (by rfl) (.int .u32 (z : Int)) _ (CL.out _ (by assumption)) ?_; intro w6 hx6))
  all_goals (go_wp2_with fail; go_ret; exact ⟨rfl, hx6⟩)
end Go.Proofs.Ytgonpaofickffaa
