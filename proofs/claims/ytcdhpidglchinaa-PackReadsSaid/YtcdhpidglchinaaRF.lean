/- The document's GetEdit. -/
import Derived.Test.YtcdhpidglchinaaRX
namespace Go.Proofs.Ytcdhpidglchinaa
open Go.RowKit Go.Lib Pk
set_option linter.unusedSimpArgs false
set_option linter.unusedVariables false

theorem list10 {α : Type} : ∀ (l : List α), l.length = 10 → ∃ a0 a1 a2 a3 a4 a5 a6 a7 a8 a9, l = [a0, a1, a2, a3, a4, a5, a6, a7, a8, a9]
  | [a0, a1, a2, a3, a4, a5, a6, a7, a8, a9], _ => ⟨a0, a1, a2, a3, a4, a5, a6, a7, a8, a9, rfl⟩
/-- Numbers that the document's reader has told into a block. -/
def NumsF (w : World) (Q P E i0 : Nat) (T : TypeId) (cs : Array Value) (zs : List Nat) (s : St) (k : Nat) (w' : World) : Prop :=
  Rf w' Q P zs (nums k s).2 ∧ w'.heap[E]? = some (.cells (lay i0 (nums k s).1 cs) T (0, 0)) ∧ Keeps (fun k => k = P ∨ k = E) w w'
theorem NumsF.step {w wr w1 : World} {Q P E i0 : Nat} {T : TypeId} {cs : Array Value} {zs : List Nat} {s : St} {k : Nat} (h : NumsF w Q P E i0 T cs zs s k wr) (hQ : Q ≤ E) (hP : E ≠ P) (t : RfNext wr Q P zs (num (nums k s).2).2 w1) : NumsF w Q P E i0 T cs zs s (k + 1) (w1.setCell ⟨E, i0 + k, none⟩ (.int .i64 (num (nums k s).2).1)) := by
  obtain ⟨r1, b1, k1⟩ := h
  have e1 : w1.heap[E]? = some (.cells (lay i0 (nums k s).1 cs) T (0, 0)) := (t.2.block E (lt_of_block b1) hP).trans b1
  have en := nums_snoc k s
  unfold NumsF
  rw [en]
  refine ⟨?_, ?_, ?_⟩
  · exact t.1.keep (keeps_at w1 E _ _) (fun i hi => by subst hi; exact ⟨hQ, hP⟩)
  · rw [block_set e1]
    simp only
    rw [lay_snoc, nums_len]
  · exact (k1.trans t.2 (fun _ _ x => Or.inl x)).trans (keeps_at w1 E _ _) (fun _ _ x => Or.inr x)
/-- What the document's GetEdit tells. -/
def GetER (w : World) (ys : List Nat) (en : Ending) (w' : World) : Prop :=
  ∃ (e : PEd) (a b c : Hd), en = .returned (.tuple #[edV e a b c, .int .i64 (fin (getE ⟨0, ys⟩).2 : Int)]) ∧ EdIn w' e a b c ∧ Keeps none' w w' ∧
    ((fin (getE ⟨0, ys⟩).2 = 0 → e.ed = (getE ⟨0, ys⟩).1) ∧ (fin (getE ⟨0, ys⟩).2 ≠ 0 → e = PEd.no ∧ a = Hd.nil ∧ b = Hd.nil ∧ c = Hd.nil))
theorem ends_zero {α : Type} {Ok : α → Prop} {p : α → List Nat} {g : St → α × St} (C : Codec Ok p g) {s : St} (h : s.Ok) (hf : (g s).2.f = 0) : s.f = 0 := by
  rcases Nat.eq_zero_or_pos s.f with e | e
  · exact e
  · have := (C.bad s (by omega) (h (by omega))).1
    omega
theorem getER_zero {w wz : World} {ys : List Nat} {F : Nat} (k : Keeps none' w wz) (hF : fin (getE ⟨0, ys⟩).2 = F) (h : F ≠ 0) : GetER w ys (.returned (.tuple #[edV PEd.no Hd.nil Hd.nil Hd.nil, .int .i64 (F : Int)])) wz := by
  refine ⟨PEd.no, Hd.nil, Hd.nil, Hd.nil, by rw [hF], EdIn.no _, k, fun x => ?_, fun _ => ⟨rfl, rfl, rfl, rfl⟩⟩
  rw [hF] at x
  exact absurd x h
theorem getER_good {w wf : World} {R P O : Nat} {ys : List Nat} {s5 : St} {ten l1 : List Int} {l : List (Int × Int)} {six q : List Int} {a b c : Hd} (U : UdR w R P R O ys s5 ten l1 l six q a b c wf) (L : Lie w R P R O) (hF : fin (getE ⟨0, ys⟩).2 = 0) (hE : (PEd.of ten l1 l six q).ed = (getE ⟨0, ys⟩).1) :
    GetER w ys (.returned (.tuple #[edV (PEd.of ten l1 l six q) a b c, .int .i64 0])) (wf.setRow R (edCells (PEd.of ten l1 l six q) a b c).toArray) := by
  have kz := keeps_row wf R (edCells (PEd.of ten l1 l six q) a b c).toArray
  have hr := L.r
  have ho := L.o
  have ca := own_cells2 U.a (ints_one _)
  have cb := own_cells2 U.b (pts_one _)
  have cc := own_cells2 U.c (ints_one _)
  refine ⟨PEd.of ten l1 l six q, a, b, c, by rw [hF]; rfl, ⟨ca.1.keep kz (fun x hx hp e => by have := (ca.2 x hx).1; omega), cb.1.keep kz (fun x hx hp e => by have := (cb.2 x hx).1; omega), cc.1.keep kz (fun x hx hp e => by have := (cc.2 x hx).1; omega)⟩, U.keep.trans kz (fun i hi x => by omega), fun _ => hE, fun x => absurd hF x⟩
theorem fin_more {s : St} (h : s.f = 0) (hy : 0 < s.ys.length) : fin s = 25 := by unfold fin; rw [if_pos hy]; simp [St.fail, h]
theorem fin_bad {s : St} (h : s.f ≠ 0) (ok : s.Ok) : fin s = s.f := by unfold fin; rw [ok h]; rfl
theorem fin_zero {s : St} (h : s.f = 0) (hy : s.ys = []) : fin s = 0 := by unfold fin; rw [hy]; exact h
attribute [local go_sem ↓] stxR
attribute [local go_sem] ptrBlock_some aggCells_agg
set_option maxRecDepth 100000 in
set_option maxHeartbeats 12800000 in
theorem RGetEdit_any (w : World) (g : Hd) (ys : List Nat) (hc : Cells 1 w g (bys ys)) (hy : ∀ y ∈ ys, y < 256) (hl : ys.length ≤ 1000000) :
    Calls Try.prog 14 #[.slice g.a g.n g.c] w (GetER w ys) := by
  obtain ⟨i0, hi0, hz0, hz1, hz2⟩ := info_parts infoRPt
  obtain ⟨v1, hv1⟩ : ∃ v, v = w.alloc (.cells Z19 39) := ⟨_, rfl⟩
  obtain ⟨v2, hv2⟩ : ∃ v, v = v1.alloc (.cells #[.slice g.a g.n g.c, .int .i64 0, .int .i64 0] 64) := ⟨_, rfl⟩
  obtain ⟨u, hu⟩ : ∃ u, u = v2.alloc (.cells Z10 65) := ⟨_, rfl⟩
  have K1 : Keeps none' w v1 := by rw [hv1]; exact (Keeps.refl none' w).alloc _
  have K2 : Keeps none' w v2 := by rw [hv2]; exact K1.alloc _
  have K3 : Keeps none' w u := by rw [hu]; exact K2.alloc _
  have z1 : v1.heap.size = w.heap.size + 1 := by rw [hv1]; simp
  have z2 : v2.heap.size = w.heap.size + 2 := by rw [hv2]; simp; omega
  have z3 : u.heap.size = w.heap.size + 3 := by rw [hu]; simp; omega
  obtain ⟨R, hR⟩ : ∃ R, R = w.heap.size := ⟨_, rfl⟩
  obtain ⟨P, hP⟩ : ∃ P, P = w.heap.size + 1 := ⟨_, rfl⟩
  obtain ⟨F, hF⟩ : ∃ F, F = w.heap.size + 2 := ⟨_, rfl⟩
  have bR : u.heap[R]? = some (.cells Z19 39 (0, 0)) := by
    rw [hu, hR]
    refine (Below.heap_alloc v2 _ _ (by omega)).trans ?_
    rw [hv2]
    refine (Below.heap_alloc v1 _ _ (by omega)).trans ?_
    rw [hv1]
    exact heap_alloc_new w _
  have bP : u.heap[P]? = some (.cells #[.slice g.a g.n g.c, .int .i64 0, .int .i64 0] 64 (0, 0)) := by
    rw [hu, hP]
    refine (Below.heap_alloc v2 _ _ (by omega)).trans ?_
    rw [hv2, ← z1]
    exact heap_alloc_new v1 _
  have bF : u.heap[F]? = some (.cells Z10 65 (0, 0)) := by
    rw [hu, hF, ← z2]
    exact heap_alloc_new v2 _
  have r0 : Rf u R P ys ⟨0, ys⟩ := ⟨g, 0, bP, hc.later K3, fun x hx hp => by rw [hR]; exact (hc.at' x hx hp).2.1, by omega, hy, Nat.zero_le _, fun h => absurd rfl h, fun _ => rfl⟩
  have N0 := Lib.hid (show NumsF u R P F 0 65 Z10 ys ⟨0, ys⟩ 0 u from ⟨r0, bF, Keeps.refl _ _⟩)
  have ZZ := Lib.hid (And.intro bR (And.intro K3 (And.intro hR (And.intro hP (And.intro hF z3)))))
  have HL := Lib.hid hl
  have eG := getE_eq ⟨0, ys⟩
  have ok0 : (⟨0, ys⟩ : St).Ok := fun h => absurd rfl h
  have t10 := nums_len 10 ⟨0, ys⟩
  have t6 := nums_len 6 (getL getPt (getL num (nums 10 ⟨0, ys⟩).2).2).2
  have k1 := (codec_nums 10).still ⟨0, ys⟩ ok0
  have CL := codec_num.list (fun a _ => put_pos a)
  have CP := codec_pt.list (fun a _ => putPt_pos a)
  obtain ⟨ten, hten⟩ : ∃ x, x = (nums 10 ⟨0, ys⟩).1 := ⟨_, rfl⟩
  obtain ⟨s1, hs1⟩ : ∃ x, x = (nums 10 ⟨0, ys⟩).2 := ⟨_, rfl⟩
  rw [← hten] at t10
  rw [← hs1] at t6 k1
  rw [← hten, ← hs1] at eG
  have k2 := CL.still s1 k1
  obtain ⟨s2, hs2⟩ : ∃ x, x = (getL num s1).2 := ⟨_, rfl⟩
  rw [← hs2] at t6 k2
  rw [← hs2] at eG
  have k3 := CP.still s2 k2
  obtain ⟨s3, hs3⟩ : ∃ x, x = (getL getPt s2).2 := ⟨_, rfl⟩
  rw [← hs3] at t6 k3
  rw [← hs3] at eG
  have k4 := (codec_nums 6).still s3 k3
  obtain ⟨six, hsix⟩ : ∃ x, x = (nums 6 s3).1 := ⟨_, rfl⟩
  obtain ⟨s4, hs4⟩ : ∃ x, x = (nums 6 s3).2 := ⟨_, rfl⟩
  rw [← hsix] at t6
  rw [← hs4] at k4
  rw [← hsix, ← hs4] at eG
  have k5 := CL.still s4 k4
  obtain ⟨s5, hs5⟩ : ∃ x, x = (getL num s4).2 := ⟨_, rfl⟩
  rw [← hs5] at eG k5
  have FZ := Lib.hid (show s5.f = 0 → s2.f = 0 ∧ s3.f = 0 from fun h5 => by
    have h4 := ends_zero CL k4 (by rw [← hs5]; exact h5)
    have h3 := ends_zero (codec_nums 6) k3 (by rw [← hs4]; exact h4)
    have h2 := ends_zero CP k2 (by rw [← hs3]; exact h3)
    exact ⟨h2, h3⟩)
  have HS := Lib.hid (And.intro hten (And.intro hs1 (And.intro hs2 (And.intro hs3 (And.intro hsix (And.intro hs4 hs5))))))
  have HT := Lib.hid (And.intro t10 (And.intro t6 eG))
  have HK := Lib.hid (And.intro k2 (And.intro k3 k5))
  have hfit := count_fits (s := s2)
  obtain ⟨n, hn⟩ : ∃ n, n = (count s2).1 := ⟨_, rfl⟩
  have hw3 : u = ((w.alloc (.cells #[.int .i64 0, .int .i64 0, .int .i64 0, .int .i64 0, .int .i64 0, .int .i64 0, .int .i64 0, .int .i64 0, .int .i64 0, .int .i64 0, .slice none 0 0, .slice none 0 0, .int .i64 0, .int .i64 0, .int .i64 0, .int .i64 0, .int .i64 0, .int .i64 0, .slice none 0 0] 39)).alloc (.cells #[.slice g.a g.n g.c, .int .i64 0, .int .i64 0] 64)).alloc (.cells #[.int .i64 0, .int .i64 0, .int .i64 0, .int .i64 0, .int .i64 0, .int .i64 0, .int .i64 0, .int .i64 0, .int .i64 0, .int .i64 0] 65) := by rw [hu, hv2, hv1]; rfl
  have l2 : s2.ys.length ≤ 1000000 := by
    have a1 := nums_less 10 ⟨0, ys⟩
    rw [← hs1] at a1
    have a2 := CL.less s1
    rw [← hs2] at a2
    simp only at a1
    omega
  have hn2 : n ≤ 1000000 := by omega
  have HN := Lib.hid hn
  have HGN := Lib.hid (show ys.length = g.n from by have := hc.len; rw [bys_length] at this; simpa using this)
  clear hc hy hl hv1 hv2 hu K1 K2 K3 z1 z2 z3 bR bP bF r0 eG ok0 t10 t6 k1 CL CP hten hs1 k2 hs2 k3 hs3 k4 hsix hs4 k5 hs5 hn hfit l2
  have sz := szREd
  have ZB := Lib.hid (fun (w1 : World) => heap_alloc_new w1 (.cells #[.int .i64 0, .int .i64 0, .int .i64 0, .int .i64 0, .int .i64 0, .int .i64 0, .int .i64 0, .int .i64 0, .int .i64 0, .int .i64 0, .slice none 0 0, .slice none 0 0, .int .i64 0, .int .i64 0, .int .i64 0, .int .i64 0, .int .i64 0, .int .i64 0, .slice none 0 0] 39))
  go_enter Try.func14, Try.ntmps14
  go_upto_region 3 with (fail)
  rw [← hw3, ← hF, ← hP, ← hR]
  clear hw3 hF hP hR
  go_wp2_with fail
  go_loopw [6] (fun v wr => ∃ k : Nat, k ≤ 10 ∧ v = .int .i64 k ∧ NumsF u R P F 0 65 Z10 ys ⟨0, ys⟩ k wr) (fun v _ => 10 - (intOf v).toNat)
  case atStart => exact ⟨0, by omega, rfl, N0.out⟩
  case round =>
    obtain ⟨k, hk, rfl, hb⟩ := hrel
    have HB := Lib.hid hb
    by_cases hlt : k < 10
    · have C := Lib.hid (Rnum_any wr R P ys (nums k ⟨0, ys⟩).2 hb.1 HL.out)
      have b1 := hb.2.1
      obtain ⟨x, hx⟩ : ∃ x, x = (num (nums k ⟨0, ys⟩).2).1 := ⟨_, rfl⟩
      rw [← hx] at C
      have hsz : k < (lay 0 (nums k ⟨0, ys⟩).1 Z10).size := by rw [lay_size]; exact hlt
      have AE := Lib.hid (fun (w1 : World) (t : RfNext wr R P ys (num (nums k ⟨0, ys⟩).2).2 w1) => show w1.heap[F]? = some (.cells (lay 0 (nums k ⟨0, ys⟩).1 Z10) 65 (0, 0)) from (t.2.block F (lt_of_block b1) (by have h1 := ZZ.out.2.2.2.1; have h2 := ZZ.out.2.2.2.2.1; omega)).trans b1)
      have HX := Lib.hid hx
      have HSz := Lib.hid hsz
      clear hb b1 hx hsz
      go_wp2_with (go_at_call 23; ((with_reducible refine C.out.mono ?_); rintro en w1 ⟨rfl, t1⟩; have T1 := Lib.hid t1; have e1 := AE.out _ t1; have ce : ∃ v, w1.cell? ⟨F, k, none⟩ = some v := (by refine ⟨_, cell_at e1 (Array.getElem?_eq_getElem HSz.out)⟩); have fe := free_at (i := k) e1; obtain ⟨v, ce⟩ := ce; clear e1 t1))
      go_roundw
      case rel =>
        refine ⟨k + 1, by omega, by go_num, ?_⟩
        have := HB.out.step (by have h1 := ZZ.out.2.2.1; have h2 := ZZ.out.2.2.2.2.1; omega) (by have h1 := ZZ.out.2.2.2.1; have h2 := ZZ.out.2.2.2.2.1; omega) T1.out
        rw [← HX.out, Nat.zero_add] at this
        exact this
      case measure => simp [intOf]; omega
    · obtain rfl : k = 10 := by omega
      have rd1 := hb.1
      have bF := hb.2.1
      rw [← HS.out.1, lay10z _ HT.out.1] at bF
      rw [← HS.out.2.1] at rd1
      have kF := hb.2.2
      obtain ⟨a0, a1, a2, a3, a4, a5, a6, a7, a8, a9, hAS⟩ := list10 ten HT.out.1
      have CS := Lib.hid (show wr.cell? ⟨F, 0, none⟩ = some (.int .i64 a0) ∧ wr.cell? ⟨F, 1, none⟩ = some (.int .i64 a1) ∧ wr.cell? ⟨F, 2, none⟩ = some (.int .i64 a2) ∧ wr.cell? ⟨F, 3, none⟩ = some (.int .i64 a3) ∧ wr.cell? ⟨F, 4, none⟩ = some (.int .i64 a4) ∧ wr.cell? ⟨F, 5, none⟩ = some (.int .i64 a5) ∧ wr.cell? ⟨F, 6, none⟩ = some (.int .i64 a6) ∧ wr.cell? ⟨F, 7, none⟩ = some (.int .i64 a7) ∧ wr.cell? ⟨F, 8, none⟩ = some (.int .i64 a8) ∧ wr.cell? ⟨F, 9, none⟩ = some (.int .i64 a9) from by
        rw [hAS] at bF
        exact ⟨cell_at (i := 0) bF rfl, cell_at (i := 1) bF rfl, cell_at (i := 2) bF rfl, cell_at (i := 3) bF rfl, cell_at (i := 4) bF rfl, cell_at (i := 5) bF rfl, cell_at (i := 6) bF rfl, cell_at (i := 7) bF rfl, cell_at (i := 8) bF rfl, cell_at (i := 9) bF rfl⟩)
      obtain ⟨d0, d1, d2, d3, d4, d5, d6, d7, d8, d9⟩ := CS.out
      have RD1 := Lib.hid rd1
      have KU := Lib.hid (show Keeps none' w wr from ZZ.out.2.1.trans kF (fun i hi x => by have h1 := ZZ.out.2.2.2.1; have h2 := ZZ.out.2.2.2.2.1; rcases x with x | x <;> omega))
      have BR := Lib.hid (show wr.heap[R]? = some (.cells Z19 39 (0, 0)) from (kF.block R (lt_of_block ZZ.out.1) (by have h0 := ZZ.out.2.2.1; have h1 := ZZ.out.2.2.2.1; have h2 := ZZ.out.2.2.2.2.1; rintro (x | x) <;> omega)).trans ZZ.out.1)
      have HA := Lib.hid hAS
      have szr : w.heap.size + 3 ≤ wr.heap.size := by have h1 := kF.size; have h2 := ZZ.out.2.2.2.2.2; omega
      have L := Lib.hid (show Lie w R P R wr.heap.size from ⟨ZZ.out.2.2.1, ZZ.out.2.2.1, ZZ.out.2.2.2.1, by omega⟩)
      have E0 := Lib.hid (fun (w2 : World) (hw : w2 = (wr.alloc (.cells #[.int .i64 0, .int .i64 0, .int .i64 0, .int .i64 0, .int .i64 0, .int .i64 0, .int .i64 0, .int .i64 0, .int .i64 0, .int .i64 0, .slice none 0 0, .slice none 0 0, .int .i64 0, .int .i64 0, .int .i64 0, .int .i64 0, .int .i64 0, .int .i64 0, .slice none 0 0] 39)).setRow wr.heap.size (edCells (PEd.of ten [] [] [] []) Hd.nil Hd.nil Hd.nil).toArray) => show UdR w R P R wr.heap.size ys s1 ten [] [] [] [] Hd.nil Hd.nil Hd.nil w2 from by
        have kk : Keeps none' wr w2 := by rw [hw]; exact ((Keeps.refl none' wr).alloc _).trans (keeps_row _ _ _) (fun i hi x => by omega)
        have hbb : w2.heap[wr.heap.size]? = some (.cells (edCells (PEd.of ten [] [] [] []) Hd.nil Hd.nil Hd.nil).toArray 39 (0, 0)) := by rw [hw]; exact setRow_heap _ _ _ _ _ _ (heap_alloc_new wr _)
        have nilrow : ∀ (W : World) (T k : Nat), W.ownsRow (wr.heap.size + 1) T k (.slice Hd.nil.a Hd.nil.n Hd.nil.c) Hd.nil.n [] := fun W T k => ⟨by simp [Hd.nil], .inl ⟨rfl, rfl⟩⟩
        exact ⟨hbb, RD1.out.later kk, (kk.later R (lt_of_block BR.out)).trans BR.out, KU.out.next kk, nilrow _ _ _, nilrow _ _ _, nilrow _ _ _⟩)
      have eCells : (.agg #[.int .i64 a0, .int .i64 a1, .int .i64 a2, .int .i64 a3, .int .i64 a4, .int .i64 a5, .int .i64 a6, .int .i64 a7, .int .i64 a8, .int .i64 a9, .slice none 0 0, .slice none 0 0, .int .i64 0, .int .i64 0, .int .i64 0, .int .i64 0, .int .i64 0, .int .i64 0, .slice none 0 0] : Value) = .agg (edCells (PEd.of ten [] [] [] []) Hd.nil Hd.nil Hd.nil).toArray := by rw [hAS]; rfl
      have EC := Lib.hid eCells
      clear hb rd1 bF kF hAS szr eCells HB hlt hk
      go_upto_region 8 with (refine wpList_store_row rfl 39 _ _ rfl wr.heap.size (edCells (PEd.of ten [] [] [] []) Hd.nil Hd.nil Hd.nil).toArray rfl EC.out 39 _ (ZB.out wr) (sz (PEd.of ten [] [] [] []) Hd.nil Hd.nil Hd.nil) rfl (ed_all _ _ _ _) ?_; (obtain ⟨w2, hw2⟩ : ∃ w2, w2 = (wr.alloc (.cells #[.int .i64 0, .int .i64 0, .int .i64 0, .int .i64 0, .int .i64 0, .int .i64 0, .int .i64 0, .int .i64 0, .int .i64 0, .int .i64 0, .slice none 0 0, .slice none 0 0, .int .i64 0, .int .i64 0, .int .i64 0, .int .i64 0, .int .i64 0, .int .i64 0, .slice none 0 0] 39)).setRow wr.heap.size (edCells (PEd.of ten [] [] [] []) Hd.nil Hd.nil Hd.nil).toArray := ⟨_, rfl⟩); rw [← hw2]; have U1 := Lib.hid (E0.out w2 hw2); clear hw2)
      obtain ⟨O, hO⟩ : ∃ O, O = wr.heap.size := ⟨_, rfl⟩
      rw [← hO] at U1 L
      rw [← hO]
      clear hO E0 EC BR RD1 KU HA CS d0 d1 d2 d3 d4 d5 d6 d7 d8 d9 ZB
      have C8 := Lib.hid (Rnums_any w2 R P ys s1 U1.out.rd HL.out)
      have X8 := Lib.hid (fun (w3 : World) (t : RfNext w2 R P ys (getL num s1).2 w3) => show RfNext w2 R P ys s2 w3 from by rw [HS.out.2.2.1]; exact t)
      go_upto_region 9 with (go_at_call 24; ((with_reducible refine C8.out.mono ?_); rintro en w3 ⟨h1, l1, rfl, o1, t1, e1⟩; have T1 := Lib.hid (And.intro o1 (And.intro t1 e1)); have N1 := (U1.out.next L.out (X8.out _ t1)).eb; have d10 := N1.c10; have f10 := free_at (i := 10) N1; clear o1 t1 e1 N1))
      obtain ⟨w4, hw4⟩ : ∃ w4, w4 = w3.setCell ⟨O, 10, none⟩ (.slice h1.a h1.n h1.c) := ⟨_, rfl⟩
      rw [← hw4]
      have U2 := Lib.hid (show UdR w R P R O ys s2 ten l1 [] [] [] h1 Hd.nil Hd.nil w4 from by
        have n := U1.out.next L.out (X8.out _ T1.out.2.1)
        rw [hw4]
        refine n.set L.out (keeps_at _ _ _ _) ?_ (own_low T1.out.1 U1.out.eb.lt) n.b n.c
        unfold Eb
        rw [block_set n.eb, set10 _ _ l1])
      have A2 := Lib.hid (show (∀ g, (Value.slice h1.a h1.n h1.c).ownBlock = some g → g < w4.heap.size) from fun g hg => by rw [hw4]; exact Nat.lt_of_lt_of_le (own_lt T1.out.1 g hg).2 (keeps_at w3 O 10 (.slice h1.a h1.n h1.c)).size)
      have E1 := Lib.hid (show s2.f = 0 → l1 = (getL num s1).1 from fun h => T1.out.2.2 (by rw [← HS.out.2.2.1]; exact h))
      clear C8 X8 T1 U1 hw4 d10 f10
      have c9 := Rsize_any w4 R P ys s2 U2.out.rd HL.out
      rw [← HN.out] at c9
      have C9 := Lib.hid c9
      clear c9
      go_wp2_with (go_at_call 25; ((with_reducible refine C9.out.mono ?_); rintro en w5 ⟨rfl, t5⟩; have U3 := Lib.hid (U2.out.next L.out t5); have SZ5 := Lib.hid t5.2.size; clear t5))
      have OP0 := Lib.hid (show OnRP s2 0 [] (count s2).2 from Or.inl ⟨onlist0 getPt s2, Or.inl rfl⟩)
      have PL := Lib.hid (show P < w4.heap.size ∧ O < w4.heap.size from ⟨U2.out.rd.lt, lt_of_block U2.out.eb⟩)
      clear C9
      go_loopw [9] (fun v wr => ∃ (k : Nat) (l : List (Int × Int)) (sk : St) (hd : Hd), k ≤ n ∧ v = .int .i64 k ∧ hd.n = k ∧ OnRP s2 k l sk ∧ UdR w R P R O ys sk ten l1 l [] [] h1 hd Hd.nil wr ∧ wr.ownsRow w4.heap.size 59 2 (.slice hd.a hd.n hd.c) hd.n (pts l) ∧ w4.heap.size ≤ wr.heap.size) (fun v _ => n - (intOf v).toNat)
      case atStart => exact ⟨0, [], (count s2).2, Hd.nil, Nat.zero_le _, rfl, rfl, OP0.out, U3.out, ⟨rfl, .inl ⟨rfl, rfl⟩⟩, SZ5.out⟩
      case round =>
        obtain ⟨k, l, sk, ⟨a, m, c⟩, hk, rfl, hm, hon, hud, hob, hsz4⟩ := hrel
        simp only at hm
        subst hm
        have HU := Lib.hid hud
        have HON := Lib.hid hon
        have HOB := Lib.hid hob
        have c2 : wr.cell? ⟨P, 2, none⟩ = some (.int .i64 (sk.f : Int)) := by obtain ⟨g, t, hg⟩ := hud.rd; exact cell_at (i := 2) hg.block rfl
        have HS4 := Lib.hid hsz4
        clear hon hob hud hsz4
        by_cases hlt : m < n
        · by_cases hf : sk.f = 0
          · have b1 : ((sk.f : Int) == 0) = true := by rw [hf]; rfl
            have C13 := Lib.hid (Rnum_any wr R P ys sk HU.out.rd HL.out)
            have nx := onrp_next HON.out hf (by rw [← HN.out]; exact hlt)
            rw [getPt_two] at nx
            obtain ⟨x, hx⟩ : ∃ x, x = (num sk).1 := ⟨_, rfl⟩
            obtain ⟨sA, hsA⟩ : ∃ s, s = (num sk).2 := ⟨_, rfl⟩
            rw [← hx, ← hsA] at C13 nx
            have C14 := Lib.hid (fun (w6 : World) (t : RfNext wr R P ys sA w6) => Rnum_any w6 R P ys sA t.1 HL.out)
            obtain ⟨y, hy⟩ : ∃ x, x = (num sA).1 := ⟨_, rfl⟩
            obtain ⟨sB, hsB⟩ : ∃ s, s = (num sA).2 := ⟨_, rfl⟩
            rw [← hy, ← hsB] at C14 nx
            have NX := Lib.hid nx
            have F7 := Lib.hid (fun (w6 w7 : World) (t6 : RfNext wr R P ys sA w6) (t7 : RfNext w6 R P ys sB w7) => show UdR w R P R O ys sB ten l1 l [] [] h1 ⟨a, m, c⟩ Hd.nil w7 ∧ w7.ownsRow w4.heap.size 59 2 (.slice a m c) m (pts l) ∧ w4.heap.size ≤ w7.heap.size from
              ⟨(HU.out.next L.out t6).next L.out t7, own_rfnext (own_rfnext HOB.out PL.out.1 t6) PL.out.1 t7, Nat.le_trans HS4.out (Nat.le_trans t6.2.size t7.2.size)⟩)
            rw [hf] at c2
            clear hx hsA hy hsB nx hf
            go_upto_region 14 with ((go_at_call 23; ((with_reducible refine C13.out.mono ?_); rintro en w6 ⟨rfl, t6⟩; have T6 := Lib.hid t6; clear t6)))
            go_upto_region 15 with ((go_at_call 23; ((with_reducible refine (C14.out w6 T6.out).mono ?_); rintro en w7 ⟨rfl, t7⟩; have U7 := Lib.hid (F7.out _ _ T6.out t7); have d11 := U7.out.1.eb.c11; have NW := Lib.hid (cells_new 2 w7 #[.int .i64 x, .int .i64 y] 59 1 1 (pts [(x, y)]) rfl rfl (Nat.le_refl _) (pts_one _)); have KA := Lib.hid ((Keeps.refl none' w7).alloc (.cells #[.int .i64 x, .int .i64 y] 59)); have OW := Lib.hid (own_kept U7.out.2.1 (w' := w7.alloc (.cells #[.int .i64 x, .int .i64 y] 59)) (fun g hg => KA.out.later g (own_lt U7.out.2.1 g hg).2)); have szb : w4.heap.size ≤ (w7.alloc (.cells #[.int .i64 x, .int .i64 y] 59)).heap.size := Nat.le_trans U7.out.2.2 KA.out.size; clear t7)))
            go_wp2_with ((at_builtin; go_loud (refine wpList_append_row rfl 36 59 _ _ rfl i0 _ 2 16 Try.underlying36 hi0 hz0 hz1 hz2 rfl (by decide) (by decide) w4.heap.size m (.slice a m c) _ rfl OW.out ⟨some ⟨w7.heap.size, 0, none⟩, 1, 1⟩ _ rfl NW.out (by omega) (by show 1 ≤ _; omega) szb ?_; intro aa cap wc ho hg hat; have kg := (Keeps.refl (fun q => some q = (Value.slice a m c).ownBlock) (w7.alloc (.cells #[.int .i64 x, .int .i64 y] 59))).grown hg (fun q _ e => e.symm); have bc := (U7.out.1.eb.keep KA.out (fun x => x)).keep kg (fun x => by have := (own_lt U7.out.2.1 O x.symm).1; have := PL.out.2; omega); have d11' := bc.c11; have f11 := free_at (i := 11) bc; have KC := Lib.hid (And.intro ho hg); clear ho hg hat kg bc)))
            go_roundw
            case rel =>
              obtain ⟨ho, hg⟩ := KC.out
              refine ⟨m + 1, l ++ [(x, y)], sB, ⟨aa, m + 1, cap⟩, by omega, by go_num, rfl, NX.out, ?_, ?_, Nat.le_trans szb (Nat.le_trans ((Keeps.refl (fun q => some q = (Value.slice a m c).ownBlock) _).grown hg (fun q _ e => e.symm)).size (keeps_at wc O 11 (.slice aa (m + 1) cap)).size)⟩
              · refine U7.out.1.grown L.out KA.out hg (fun g hgg h2 => ?_) rfl rfl (own_low (by rw [pts_append]; exact ho) (by have := PL.out.2; omega))
                have h3 := A2.out g hgg
                have h4 := (own_lt U7.out.2.1 g h2).1
                omega
              · have ho2 : wc.ownsRow w4.heap.size 59 2 (.slice aa (m + 1) cap) (m + 1) (pts (l ++ [(x, y)])) := by rw [pts_append]; exact ho
                exact own_kept ho2 (fun g hgg => (keeps_at wc O 11 (.slice aa (m + 1) cap)).block g (own_lt ho2 g hgg).2 (by have := (own_lt ho2 g hgg).1; have := PL.out.2; omega))
            case measure => simp [intOf]; omega
          · have b1 : ((sk.f : Int) == 0) = false := by simp [hf]
            have e3 := Lib.hid (show (getL getPt s2).2 = sk from onrp_stop HON.out hf (HU.out.rd.ok hf) (by rw [← HN.out]; exact hk))
            have e4 := Lib.hid (show sk.f = 0 → l = (getL getPt s2).1 from fun h => absurd h hf)
            clear hf
            have U5 := Lib.hid (show UdR w R P R O ys s3 ten l1 l [] [] h1 ⟨a, m, c⟩ Hd.nil wr from by rw [HS.out.2.2.2.1, e3.out]; exact HU.out)
            have E5 := Lib.hid (show s3.f = 0 → l = (getL getPt s2).1 from by rw [HS.out.2.2.2.1, e3.out]; exact e4.out)
            clear HU e3 e4 HON HOB HS4
            obtain ⟨CS, hCS⟩ : ∃ x, x = (edCells (PEd.of ten l1 l [] []) h1 ⟨a, m, c⟩ Hd.nil).toArray := ⟨_, rfl⟩
            have HCS := Lib.hid (And.intro hCS (show CS.size = 19 from by rw [hCS]; rfl))
            have N0 := Lib.hid (show NumsF wr R P O 12 39 CS ys s3 0 wr from ⟨U5.out.rd, by rw [hCS]; exact U5.out.eb, Keeps.refl _ _⟩)
            clear hCS
            go_wp2_with fail
            obtain ⟨wx, rfl⟩ : ∃ wx, wx = wr := ⟨_, rfl⟩
            clear c2 b1
            go_loopw [12] (fun v wr => ∃ k : Nat, k ≤ 6 ∧ v = .int .i64 k ∧ NumsF wx R P O 12 39 CS ys s3 k wr) (fun v _ => 6 - (intOf v).toNat)
            case atStart => exact ⟨0, by omega, rfl, N0.out⟩
            case round =>
              obtain ⟨k, hk, rfl, hb⟩ := hrel
              have HB := Lib.hid hb
              by_cases hlt : k < 6
              · have C := Lib.hid (Rnum_any wr R P ys (nums k s3).2 hb.1 HL.out)
                have b1 := hb.2.1
                obtain ⟨x, hx⟩ : ∃ x, x = (num (nums k s3).2).1 := ⟨_, rfl⟩
                rw [← hx] at C
                have hsz : 12 + k < (lay 12 (nums k s3).1 CS).size := by rw [lay_size, HCS.out.2]; omega
                have AE := Lib.hid (fun (w1 : World) (t : RfNext wr R P ys (num (nums k s3).2).2 w1) => show w1.heap[O]? = some (.cells (lay 12 (nums k s3).1 CS) 39 (0, 0)) from (t.2.block O (lt_of_block b1) (by have h1 := L.out.p; have h2 := L.out.o; omega)).trans b1)
                have HX := Lib.hid hx
                have HSz := Lib.hid hsz
                clear hb b1 hx hsz
                go_wp2_with (go_at_call 23; ((with_reducible refine C.out.mono ?_); rintro en w1 ⟨rfl, t1⟩; have T1 := Lib.hid t1; have e1 := AE.out _ t1; have ce : ∃ v, w1.cell? ⟨O, 12 + k, none⟩ = some v := (by refine ⟨_, cell_at e1 (Array.getElem?_eq_getElem HSz.out)⟩); have fe := free_at (i := 12 + k) e1; obtain ⟨v, ce⟩ := ce; clear e1 t1))
                go_roundw
                case rel =>
                  refine ⟨k + 1, by omega, by go_num, ?_⟩
                  have := HB.out.step (by have h1 := L.out.r; have h2 := L.out.o; omega) (by have h1 := L.out.p; have h2 := L.out.o; omega) T1.out
                  rw [← HX.out] at this
                  exact this
                case measure => simp [intOf]; omega
              · obtain rfl : k = 6 := by omega
                have U6 := Lib.hid (show UdR w R P R O ys s4 ten l1 l six [] h1 ⟨a, m, c⟩ Hd.nil wr from U5.out.move L.out hb.2.2 (by rw [HS.out.2.2.2.2.2.1]; exact hb.1) (by
                  have b6 := hb.2.1
                  rw [← HS.out.2.2.2.2.1, HCS.out.1, lay12 _ _ _ _ _ _ _ _ HT.out.2.1] at b6
                  exact b6) U5.out.a U5.out.b U5.out.c)
                clear hb HB hlt hk N0 HCS U5
                have C20 := Lib.hid (Rnums_any wr R P ys s4 U6.out.rd HL.out)
                have X20 := Lib.hid (fun (w3 : World) (t : RfNext wr R P ys (getL num s4).2 w3) => show RfNext wr R P ys s5 w3 from by rw [HS.out.2.2.2.2.2.2]; exact t)
                go_upto_region 21 with (go_at_call 24; ((with_reducible refine C20.out.mono ?_); rintro en w8 ⟨h3, q, rfl, o8, t8, e8⟩; have T8 := Lib.hid (And.intro o8 (And.intro t8 e8)); have N8 := (U6.out.next L.out (X20.out _ t8)).eb; have d18 := N8.c18; have f18 := free_at (i := 18) N8; clear o8 t8 e8 N8))
                obtain ⟨w9, hw9⟩ : ∃ w9, w9 = w8.setCell ⟨O, 18, none⟩ (.slice h3.a h3.n h3.c) := ⟨_, rfl⟩
                rw [← hw9]
                have U7 := Lib.hid (show UdR w R P R O ys s5 ten l1 l six q h1 ⟨a, m, c⟩ h3 w9 from by
                  have n := U6.out.next L.out (X20.out _ T8.out.2.1)
                  rw [hw9]
                  refine n.set L.out (keeps_at _ _ _ _) ?_ n.a n.b (own_low T8.out.1 U6.out.eb.lt)
                  unfold Eb
                  rw [block_set n.eb, set18 _ _ _ _ _ q])
                have E7 := Lib.hid (show s5.f = 0 → q = (getL num s4).1 from fun h => T8.out.2.2 (by rw [← HS.out.2.2.2.2.2.2]; exact h))
                clear C20 X20 T8 U6 hw9 d18 f18
                have H5 := U7.out.rd
                obtain ⟨g5, t, H5⟩ := H5
                have b5 := H5.block
                have hat := H5.at_
                have H6 := Lib.hid (And.intro H5.here H5.ok)
                have c1 : w9.cell? ⟨P, 1, none⟩ = some (.int .i64 (t : Int)) := cell_at (i := 1) b5 rfl
                have c2 : w9.cell? ⟨P, 2, none⟩ = some (.int .i64 (s5.f : Int)) := cell_at (i := 2) b5 rfl
                rw [HGN.out] at hat
                have bz := U7.out.zero
                have EG := Lib.hid (show (getE ⟨0, ys⟩).2 = s5 from by rw [HT.out.2.2])
                clear H5
                by_cases h0 : s5.f = 0
                · rw [h0] at c2 b5
                  by_cases ht : t < g.n
                  · have ht2 : (t : Int) < g.n := by omega
                    have FE := Lib.hid (show fin (getE ⟨0, ys⟩).2 = 25 from by rw [EG.out]; exact fin_more h0 (by rw [H6.out.1 h0, List.length_drop, HGN.out]; omega))
                    obtain ⟨F5, hF5⟩ : ∃ F : Nat, F = 25 := ⟨_, rfl⟩
                    have CF := Lib.hid (show Calls Try.prog 26 #[.pointer (some ⟨P, 0, none⟩), .int .i64 25] w9 fun en w' => en = .returned (.tuple #[]) ∧ w'.heap[P]? = some (.cells #[.slice g5.a g5.n g5.c, .int .i64 (t : Int), .int .i64 (F5 : Int)] 64 (0, 0)) ∧ Keeps (fun k => k = P) w9 w' from by subst hF5; exact rfail_at 25 P w9 _ _ b5)
                    have hb2 : ((F5 : Int) != 0) = true := by rw [hF5]; rfl
                    have BZ := Lib.hid bz
                    have FE5 := Lib.hid (show fin (getE ⟨0, ys⟩).2 = F5 ∧ F5 ≠ 0 from ⟨by rw [FE.out, hF5], by omega⟩)
                    clear h0 hF5 FE b5 bz
                    go_upto_region 23 with (go_at_call 26; ((with_reducible refine CF.out.mono ?_); rintro en w10 ⟨rfl, bq, kq⟩; have KQ := Lib.hid kq; have BQ := Lib.hid bq; have c2q : w10.cell? ⟨P, 2, none⟩ = some (.int .i64 (F5 : Int)) := cell_at (i := 2) bq rfl; clear kq bq))
                    have bz : w10.heap[R]? = some (.cells Z19 39 (0, 0)) := (KQ.out.block R (lt_of_block BZ.out) (by have := L.out.r; have := L.out.p; omega)).trans BZ.out
                    have kall := Lib.hid (U7.out.keep.trans KQ.out (fun i hi x => by have := L.out.p; omega))
                    clear CF BZ U7 c1 c2
                    have rz : RowE w10.drew 39 R := ⟨_, bz, rfl⟩
                    have oz : One19 #[.int .i64 0, .int .i64 0, .int .i64 0, .int .i64 0, .int .i64 0, .int .i64 0, .int .i64 0, .int .i64 0, .int .i64 0, .int .i64 0, .slice none 0 0, .slice none 0 0, .int .i64 0, .int .i64 0, .int .i64 0, .int .i64 0, .int .i64 0, .int .i64 0, .slice none 0 0] := ⟨rfl, ed_all PEd.no Hd.nil Hd.nil Hd.nil⟩
                    have c2a : (w10.drew.setRow R #[.int .i64 0, .int .i64 0, .int .i64 0, .int .i64 0, .int .i64 0, .int .i64 0, .int .i64 0, .int .i64 0, .int .i64 0, .int .i64 0, .slice none 0 0, .slice none 0 0, .int .i64 0, .int .i64 0, .int .i64 0, .int .i64 0, .int .i64 0, .int .i64 0, .slice none 0 0]).cell? ⟨P, 2, none⟩ = some (.int .i64 (F5 : Int)) := cell_at (i := 2) (((keeps_row w10.drew R #[.int .i64 0, .int .i64 0, .int .i64 0, .int .i64 0, .int .i64 0, .int .i64 0, .int .i64 0, .int .i64 0, .int .i64 0, .int .i64 0, .slice none 0 0, .slice none 0 0, .int .i64 0, .int .i64 0, .int .i64 0, .int .i64 0, .int .i64 0, .int .i64 0, .slice none 0 0]).block P (lt_of_block BQ.out) (by have := L.out.r; have := L.out.p; omega)).trans BQ.out) rfl
                    have FR := Lib.hid (show (w10.drew.setRow R #[.int .i64 0, .int .i64 0, .int .i64 0, .int .i64 0, .int .i64 0, .int .i64 0, .int .i64 0, .int .i64 0, .int .i64 0, .int .i64 0, .slice none 0 0, .slice none 0 0, .int .i64 0, .int .i64 0, .int .i64 0, .int .i64 0, .int .i64 0, .int .i64 0, .slice none 0 0]).heap[R]? = some (.cells (edCells PEd.no Hd.nil Hd.nil Hd.nil).toArray 39 (0, 0)) from setRow_heap w10.drew _ _ _ _ _ bz)
                    have GZ := Lib.hid (show GetER w ys (.returned (.tuple #[edV PEd.no Hd.nil Hd.nil Hd.nil, .int .i64 (F5 : Int)])) (w10.drew.setRow R #[.int .i64 0, .int .i64 0, .int .i64 0, .int .i64 0, .int .i64 0, .int .i64 0, .int .i64 0, .int .i64 0, .int .i64 0, .int .i64 0, .slice none 0 0, .slice none 0 0, .int .i64 0, .int .i64 0, .int .i64 0, .int .i64 0, .int .i64 0, .int .i64 0, .slice none 0 0]) from getER_zero ((Keeps.drew kall.out).trans (keeps_row w10.drew R #[.int .i64 0, .int .i64 0, .int .i64 0, .int .i64 0, .int .i64 0, .int .i64 0, .int .i64 0, .int .i64 0, .int .i64 0, .int .i64 0, .slice none 0 0, .slice none 0 0, .int .i64 0, .int .i64 0, .int .i64 0, .int .i64 0, .int .i64 0, .int .i64 0, .slice none 0 0]) (fun i hi x => by have := L.out.r; omega)) FE5.out.1 FE5.out.2)
                    clear bz
                    go_upto_region 24 with (fail)
                    go_region_law (fail)
                    all_goals
                      go_wp2_with fail
                      refine bodyPost_ret (results_cell_row2 rfl _ _ R 39 (edCells PEd.no Hd.nil Hd.nil Hd.nil).toArray (0, 0) _ rfl FR.out Try.underlying39 rfl (sz PEd.no Hd.nil Hd.nil Hd.nil)) rfl ?_
                      exact GZ.out
                  · have ht2 : ¬ (t : Int) < g.n := by omega
                    have FE := Lib.hid (show fin (getE ⟨0, ys⟩).2 = 0 from by rw [EG.out]; exact fin_zero h0 (by rw [H6.out.1 h0]; exact List.drop_eq_nil_of_le (by rw [HGN.out]; omega)))
                    have hz := FZ.out h0
                    have HE := Lib.hid (show (PEd.of ten l1 l six q).ed = (getE ⟨0, ys⟩).1 from by
                      rw [HT.out.2.2, ← E1.out hz.1, ← E5.out hz.2, ← E7.out h0]
                      unfold PEd.ed
                      rw [of_ten _ _ _ _ _ HT.out.1, of_six _ _ _ _ _ HT.out.2.1]
                      rfl)
                    have GG := Lib.hid (getER_good U7.out L.out FE.out HE.out)
                    have SZ := Lib.hid (sz (PEd.of ten l1 l six q) h1 ⟨a, m, c⟩ h3)
                    clear h0 hz b5 HE FE bz
                    go_wp2_with (first
                      | (refine wpList_load_row rfl 39 _ rfl O rfl 39 (edCells (PEd.of ten l1 l six q) h1 ⟨a, m, c⟩ h3).toArray (0, 0) _ U7.out.eb Try.underlying39 rfl SZ.out ?_)
                      | (refine wpList_store_row rfl 39 _ _ rfl R (edCells (PEd.of ten l1 l six q) h1 ⟨a, m, c⟩ h3).toArray rfl rfl 39 _ U7.out.zero SZ.out rfl (ed_all _ _ _ _) ?_))
                    refine bodyPost_ret (results_cell_row2 rfl _ _ R 39 (edCells (PEd.of ten l1 l six q) h1 ⟨a, m, c⟩ h3).toArray (0, 0) _ rfl (setRow_heap _ _ _ _ _ _ U7.out.zero) Try.underlying39 rfl SZ.out) rfl ?_
                    exact GG.out
                · have hb1 : ((s5.f : Int) == 0) = false := by simp [h0]
                  have hb2 : ((s5.f : Int) != 0) = true := by simp [h0]
                  have FE := Lib.hid (show fin (getE ⟨0, ys⟩).2 = s5.f from by rw [EG.out]; exact fin_bad h0 H6.out.2)
                  have H0 := Lib.hid h0
                  clear h0
                  have rz : RowE w9.drew 39 R := ⟨_, bz, rfl⟩
                  have oz : One19 #[.int .i64 0, .int .i64 0, .int .i64 0, .int .i64 0, .int .i64 0, .int .i64 0, .int .i64 0, .int .i64 0, .int .i64 0, .int .i64 0, .slice none 0 0, .slice none 0 0, .int .i64 0, .int .i64 0, .int .i64 0, .int .i64 0, .int .i64 0, .int .i64 0, .slice none 0 0] := ⟨rfl, ed_all PEd.no Hd.nil Hd.nil Hd.nil⟩
                  have c2a : (w9.drew.setRow R #[.int .i64 0, .int .i64 0, .int .i64 0, .int .i64 0, .int .i64 0, .int .i64 0, .int .i64 0, .int .i64 0, .int .i64 0, .int .i64 0, .slice none 0 0, .slice none 0 0, .int .i64 0, .int .i64 0, .int .i64 0, .int .i64 0, .int .i64 0, .int .i64 0, .slice none 0 0]).cell? ⟨P, 2, none⟩ = some (.int .i64 (s5.f : Int)) := cell_at (i := 2) (((keeps_row w9.drew R #[.int .i64 0, .int .i64 0, .int .i64 0, .int .i64 0, .int .i64 0, .int .i64 0, .int .i64 0, .int .i64 0, .int .i64 0, .int .i64 0, .slice none 0 0, .slice none 0 0, .int .i64 0, .int .i64 0, .int .i64 0, .int .i64 0, .int .i64 0, .int .i64 0, .slice none 0 0]).block P (lt_of_block b5) (by have := L.out.r; have := L.out.p; omega)).trans b5) rfl
                  have FR := Lib.hid (show (w9.drew.setRow R #[.int .i64 0, .int .i64 0, .int .i64 0, .int .i64 0, .int .i64 0, .int .i64 0, .int .i64 0, .int .i64 0, .int .i64 0, .int .i64 0, .slice none 0 0, .slice none 0 0, .int .i64 0, .int .i64 0, .int .i64 0, .int .i64 0, .int .i64 0, .int .i64 0, .slice none 0 0]).heap[R]? = some (.cells (edCells PEd.no Hd.nil Hd.nil Hd.nil).toArray 39 (0, 0)) from setRow_heap w9.drew _ _ _ _ _ bz)
                  have GZ := Lib.hid (show GetER w ys (.returned (.tuple #[edV PEd.no Hd.nil Hd.nil Hd.nil, .int .i64 (s5.f : Int)])) (w9.drew.setRow R #[.int .i64 0, .int .i64 0, .int .i64 0, .int .i64 0, .int .i64 0, .int .i64 0, .int .i64 0, .int .i64 0, .int .i64 0, .int .i64 0, .slice none 0 0, .slice none 0 0, .int .i64 0, .int .i64 0, .int .i64 0, .int .i64 0, .int .i64 0, .int .i64 0, .slice none 0 0]) from getER_zero ((Keeps.drew U7.out.keep).trans (keeps_row w9.drew R #[.int .i64 0, .int .i64 0, .int .i64 0, .int .i64 0, .int .i64 0, .int .i64 0, .int .i64 0, .int .i64 0, .int .i64 0, .int .i64 0, .slice none 0 0, .slice none 0 0, .int .i64 0, .int .i64 0, .int .i64 0, .int .i64 0, .int .i64 0, .int .i64 0, .slice none 0 0]) (fun i hi x => by have := L.out.r; omega)) FE.out H0.out)
                  clear bz
                  go_upto_region 24 with (fail)
                  go_region_law (fail)
                  all_goals
                    go_wp2_with fail
                    refine bodyPost_ret (results_cell_row2 rfl _ _ R 39 (edCells PEd.no Hd.nil Hd.nil Hd.nil).toArray (0, 0) _ rfl FR.out Try.underlying39 rfl (sz PEd.no Hd.nil Hd.nil Hd.nil)) rfl ?_
                    exact GZ.out
        · have ek : m = (count s2).1 := by have := HN.out; omega
          have hon := HON.out
          rw [ek] at hon
          have e3 := Lib.hid (show (getL getPt s2).2 = sk from by
            by_cases hf : sk.f = 0
            · rw [onrp_end hon hf]
            · exact onrp_stop hon hf (HU.out.rd.ok hf) (Nat.le_refl _))
          have e4 := Lib.hid (show sk.f = 0 → l = (getL getPt s2).1 from fun h => by rw [onrp_end hon h])
          clear hon ek
          have U5 := Lib.hid (show UdR w R P R O ys s3 ten l1 l [] [] h1 ⟨a, m, c⟩ Hd.nil wr from by rw [HS.out.2.2.2.1, e3.out]; exact HU.out)
          have E5 := Lib.hid (show s3.f = 0 → l = (getL getPt s2).1 from by rw [HS.out.2.2.2.1, e3.out]; exact e4.out)
          clear HU e3 e4 HON HOB HS4
          obtain ⟨CS, hCS⟩ : ∃ x, x = (edCells (PEd.of ten l1 l [] []) h1 ⟨a, m, c⟩ Hd.nil).toArray := ⟨_, rfl⟩
          have HCS := Lib.hid (And.intro hCS (show CS.size = 19 from by rw [hCS]; rfl))
          have N0 := Lib.hid (show NumsF wr R P O 12 39 CS ys s3 0 wr from ⟨U5.out.rd, by rw [hCS]; exact U5.out.eb, Keeps.refl _ _⟩)
          clear hCS
          go_wp2_with fail
          obtain ⟨wx, rfl⟩ : ∃ wx, wx = wr := ⟨_, rfl⟩
          clear c2
          go_loopw [12] (fun v wr => ∃ k : Nat, k ≤ 6 ∧ v = .int .i64 k ∧ NumsF wx R P O 12 39 CS ys s3 k wr) (fun v _ => 6 - (intOf v).toNat)
          case atStart => exact ⟨0, by omega, rfl, N0.out⟩
          case round =>
            obtain ⟨k, hk, rfl, hb⟩ := hrel
            have HB := Lib.hid hb
            by_cases hlt : k < 6
            · have C := Lib.hid (Rnum_any wr R P ys (nums k s3).2 hb.1 HL.out)
              have b1 := hb.2.1
              obtain ⟨x, hx⟩ : ∃ x, x = (num (nums k s3).2).1 := ⟨_, rfl⟩
              rw [← hx] at C
              have hsz : 12 + k < (lay 12 (nums k s3).1 CS).size := by rw [lay_size, HCS.out.2]; omega
              have AE := Lib.hid (fun (w1 : World) (t : RfNext wr R P ys (num (nums k s3).2).2 w1) => show w1.heap[O]? = some (.cells (lay 12 (nums k s3).1 CS) 39 (0, 0)) from (t.2.block O (lt_of_block b1) (by have h1 := L.out.p; have h2 := L.out.o; omega)).trans b1)
              have HX := Lib.hid hx
              have HSz := Lib.hid hsz
              clear hb b1 hx hsz
              go_wp2_with (go_at_call 23; ((with_reducible refine C.out.mono ?_); rintro en w1 ⟨rfl, t1⟩; have T1 := Lib.hid t1; have e1 := AE.out _ t1; have ce : ∃ v, w1.cell? ⟨O, 12 + k, none⟩ = some v := (by refine ⟨_, cell_at e1 (Array.getElem?_eq_getElem HSz.out)⟩); have fe := free_at (i := 12 + k) e1; obtain ⟨v, ce⟩ := ce; clear e1 t1))
              go_roundw
              case rel =>
                refine ⟨k + 1, by omega, by go_num, ?_⟩
                have := HB.out.step (by have h1 := L.out.r; have h2 := L.out.o; omega) (by have h1 := L.out.p; have h2 := L.out.o; omega) T1.out
                rw [← HX.out] at this
                exact this
              case measure => simp [intOf]; omega
            · obtain rfl : k = 6 := by omega
              have U6 := Lib.hid (show UdR w R P R O ys s4 ten l1 l six [] h1 ⟨a, m, c⟩ Hd.nil wr from U5.out.move L.out hb.2.2 (by rw [HS.out.2.2.2.2.2.1]; exact hb.1) (by
                have b6 := hb.2.1
                rw [← HS.out.2.2.2.2.1, HCS.out.1, lay12 _ _ _ _ _ _ _ _ HT.out.2.1] at b6
                exact b6) U5.out.a U5.out.b U5.out.c)
              clear hb HB hlt hk N0 HCS U5
              have C20 := Lib.hid (Rnums_any wr R P ys s4 U6.out.rd HL.out)
              have X20 := Lib.hid (fun (w3 : World) (t : RfNext wr R P ys (getL num s4).2 w3) => show RfNext wr R P ys s5 w3 from by rw [HS.out.2.2.2.2.2.2]; exact t)
              go_upto_region 21 with (go_at_call 24; ((with_reducible refine C20.out.mono ?_); rintro en w8 ⟨h3, q, rfl, o8, t8, e8⟩; have T8 := Lib.hid (And.intro o8 (And.intro t8 e8)); have N8 := (U6.out.next L.out (X20.out _ t8)).eb; have d18 := N8.c18; have f18 := free_at (i := 18) N8; clear o8 t8 e8 N8))
              obtain ⟨w9, hw9⟩ : ∃ w9, w9 = w8.setCell ⟨O, 18, none⟩ (.slice h3.a h3.n h3.c) := ⟨_, rfl⟩
              rw [← hw9]
              have U7 := Lib.hid (show UdR w R P R O ys s5 ten l1 l six q h1 ⟨a, m, c⟩ h3 w9 from by
                have n := U6.out.next L.out (X20.out _ T8.out.2.1)
                rw [hw9]
                refine n.set L.out (keeps_at _ _ _ _) ?_ n.a n.b (own_low T8.out.1 U6.out.eb.lt)
                unfold Eb
                rw [block_set n.eb, set18 _ _ _ _ _ q])
              have E7 := Lib.hid (show s5.f = 0 → q = (getL num s4).1 from fun h => T8.out.2.2 (by rw [← HS.out.2.2.2.2.2.2]; exact h))
              clear C20 X20 T8 U6 hw9 d18 f18
              have H5 := U7.out.rd
              obtain ⟨g5, t, H5⟩ := H5
              have b5 := H5.block
              have hat := H5.at_
              have H6 := Lib.hid (And.intro H5.here H5.ok)
              have c1 : w9.cell? ⟨P, 1, none⟩ = some (.int .i64 (t : Int)) := cell_at (i := 1) b5 rfl
              have c2 : w9.cell? ⟨P, 2, none⟩ = some (.int .i64 (s5.f : Int)) := cell_at (i := 2) b5 rfl
              rw [HGN.out] at hat
              have bz := U7.out.zero
              have EG := Lib.hid (show (getE ⟨0, ys⟩).2 = s5 from by rw [HT.out.2.2])
              clear H5
              by_cases h0 : s5.f = 0
              · rw [h0] at c2 b5
                by_cases ht : t < g.n
                · have ht2 : (t : Int) < g.n := by omega
                  have FE := Lib.hid (show fin (getE ⟨0, ys⟩).2 = 25 from by rw [EG.out]; exact fin_more h0 (by rw [H6.out.1 h0, List.length_drop, HGN.out]; omega))
                  obtain ⟨F5, hF5⟩ : ∃ F : Nat, F = 25 := ⟨_, rfl⟩
                  have CF := Lib.hid (show Calls Try.prog 26 #[.pointer (some ⟨P, 0, none⟩), .int .i64 25] w9 fun en w' => en = .returned (.tuple #[]) ∧ w'.heap[P]? = some (.cells #[.slice g5.a g5.n g5.c, .int .i64 (t : Int), .int .i64 (F5 : Int)] 64 (0, 0)) ∧ Keeps (fun k => k = P) w9 w' from by subst hF5; exact rfail_at 25 P w9 _ _ b5)
                  have hb2 : ((F5 : Int) != 0) = true := by rw [hF5]; rfl
                  have BZ := Lib.hid bz
                  have FE5 := Lib.hid (show fin (getE ⟨0, ys⟩).2 = F5 ∧ F5 ≠ 0 from ⟨by rw [FE.out, hF5], by omega⟩)
                  clear h0 hF5 FE b5 bz
                  go_upto_region 23 with (go_at_call 26; ((with_reducible refine CF.out.mono ?_); rintro en w10 ⟨rfl, bq, kq⟩; have KQ := Lib.hid kq; have BQ := Lib.hid bq; have c2q : w10.cell? ⟨P, 2, none⟩ = some (.int .i64 (F5 : Int)) := cell_at (i := 2) bq rfl; clear kq bq))
                  have bz : w10.heap[R]? = some (.cells Z19 39 (0, 0)) := (KQ.out.block R (lt_of_block BZ.out) (by have := L.out.r; have := L.out.p; omega)).trans BZ.out
                  have kall := Lib.hid (U7.out.keep.trans KQ.out (fun i hi x => by have := L.out.p; omega))
                  clear CF BZ U7 c1 c2
                  have rz : RowE w10.drew 39 R := ⟨_, bz, rfl⟩
                  have oz : One19 #[.int .i64 0, .int .i64 0, .int .i64 0, .int .i64 0, .int .i64 0, .int .i64 0, .int .i64 0, .int .i64 0, .int .i64 0, .int .i64 0, .slice none 0 0, .slice none 0 0, .int .i64 0, .int .i64 0, .int .i64 0, .int .i64 0, .int .i64 0, .int .i64 0, .slice none 0 0] := ⟨rfl, ed_all PEd.no Hd.nil Hd.nil Hd.nil⟩
                  have c2a : (w10.drew.setRow R #[.int .i64 0, .int .i64 0, .int .i64 0, .int .i64 0, .int .i64 0, .int .i64 0, .int .i64 0, .int .i64 0, .int .i64 0, .int .i64 0, .slice none 0 0, .slice none 0 0, .int .i64 0, .int .i64 0, .int .i64 0, .int .i64 0, .int .i64 0, .int .i64 0, .slice none 0 0]).cell? ⟨P, 2, none⟩ = some (.int .i64 (F5 : Int)) := cell_at (i := 2) (((keeps_row w10.drew R #[.int .i64 0, .int .i64 0, .int .i64 0, .int .i64 0, .int .i64 0, .int .i64 0, .int .i64 0, .int .i64 0, .int .i64 0, .int .i64 0, .slice none 0 0, .slice none 0 0, .int .i64 0, .int .i64 0, .int .i64 0, .int .i64 0, .int .i64 0, .int .i64 0, .slice none 0 0]).block P (lt_of_block BQ.out) (by have := L.out.r; have := L.out.p; omega)).trans BQ.out) rfl
                  have FR := Lib.hid (show (w10.drew.setRow R #[.int .i64 0, .int .i64 0, .int .i64 0, .int .i64 0, .int .i64 0, .int .i64 0, .int .i64 0, .int .i64 0, .int .i64 0, .int .i64 0, .slice none 0 0, .slice none 0 0, .int .i64 0, .int .i64 0, .int .i64 0, .int .i64 0, .int .i64 0, .int .i64 0, .slice none 0 0]).heap[R]? = some (.cells (edCells PEd.no Hd.nil Hd.nil Hd.nil).toArray 39 (0, 0)) from setRow_heap w10.drew _ _ _ _ _ bz)
                  have GZ := Lib.hid (show GetER w ys (.returned (.tuple #[edV PEd.no Hd.nil Hd.nil Hd.nil, .int .i64 (F5 : Int)])) (w10.drew.setRow R #[.int .i64 0, .int .i64 0, .int .i64 0, .int .i64 0, .int .i64 0, .int .i64 0, .int .i64 0, .int .i64 0, .int .i64 0, .int .i64 0, .slice none 0 0, .slice none 0 0, .int .i64 0, .int .i64 0, .int .i64 0, .int .i64 0, .int .i64 0, .int .i64 0, .slice none 0 0]) from getER_zero ((Keeps.drew kall.out).trans (keeps_row w10.drew R #[.int .i64 0, .int .i64 0, .int .i64 0, .int .i64 0, .int .i64 0, .int .i64 0, .int .i64 0, .int .i64 0, .int .i64 0, .int .i64 0, .slice none 0 0, .slice none 0 0, .int .i64 0, .int .i64 0, .int .i64 0, .int .i64 0, .int .i64 0, .int .i64 0, .slice none 0 0]) (fun i hi x => by have := L.out.r; omega)) FE5.out.1 FE5.out.2)
                  clear bz
                  go_upto_region 24 with (fail)
                  go_region_law (fail)
                  all_goals
                    go_wp2_with fail
                    refine bodyPost_ret (results_cell_row2 rfl _ _ R 39 (edCells PEd.no Hd.nil Hd.nil Hd.nil).toArray (0, 0) _ rfl FR.out Try.underlying39 rfl (sz PEd.no Hd.nil Hd.nil Hd.nil)) rfl ?_
                    exact GZ.out
                · have ht2 : ¬ (t : Int) < g.n := by omega
                  have FE := Lib.hid (show fin (getE ⟨0, ys⟩).2 = 0 from by rw [EG.out]; exact fin_zero h0 (by rw [H6.out.1 h0]; exact List.drop_eq_nil_of_le (by rw [HGN.out]; omega)))
                  have hz := FZ.out h0
                  have HE := Lib.hid (show (PEd.of ten l1 l six q).ed = (getE ⟨0, ys⟩).1 from by
                    rw [HT.out.2.2, ← E1.out hz.1, ← E5.out hz.2, ← E7.out h0]
                    unfold PEd.ed
                    rw [of_ten _ _ _ _ _ HT.out.1, of_six _ _ _ _ _ HT.out.2.1]
                    rfl)
                  have GG := Lib.hid (getER_good U7.out L.out FE.out HE.out)
                  have SZ := Lib.hid (sz (PEd.of ten l1 l six q) h1 ⟨a, m, c⟩ h3)
                  clear h0 hz b5 HE FE bz
                  go_wp2_with (first
                    | (refine wpList_load_row rfl 39 _ rfl O rfl 39 (edCells (PEd.of ten l1 l six q) h1 ⟨a, m, c⟩ h3).toArray (0, 0) _ U7.out.eb Try.underlying39 rfl SZ.out ?_)
                    | (refine wpList_store_row rfl 39 _ _ rfl R (edCells (PEd.of ten l1 l six q) h1 ⟨a, m, c⟩ h3).toArray rfl rfl 39 _ U7.out.zero SZ.out rfl (ed_all _ _ _ _) ?_))
                  refine bodyPost_ret (results_cell_row2 rfl _ _ R 39 (edCells (PEd.of ten l1 l six q) h1 ⟨a, m, c⟩ h3).toArray (0, 0) _ rfl (setRow_heap _ _ _ _ _ _ U7.out.zero) Try.underlying39 rfl SZ.out) rfl ?_
                  exact GG.out
              · have hb1 : ((s5.f : Int) == 0) = false := by simp [h0]
                have hb2 : ((s5.f : Int) != 0) = true := by simp [h0]
                have FE := Lib.hid (show fin (getE ⟨0, ys⟩).2 = s5.f from by rw [EG.out]; exact fin_bad h0 H6.out.2)
                have H0 := Lib.hid h0
                clear h0
                have rz : RowE w9.drew 39 R := ⟨_, bz, rfl⟩
                have oz : One19 #[.int .i64 0, .int .i64 0, .int .i64 0, .int .i64 0, .int .i64 0, .int .i64 0, .int .i64 0, .int .i64 0, .int .i64 0, .int .i64 0, .slice none 0 0, .slice none 0 0, .int .i64 0, .int .i64 0, .int .i64 0, .int .i64 0, .int .i64 0, .int .i64 0, .slice none 0 0] := ⟨rfl, ed_all PEd.no Hd.nil Hd.nil Hd.nil⟩
                have c2a : (w9.drew.setRow R #[.int .i64 0, .int .i64 0, .int .i64 0, .int .i64 0, .int .i64 0, .int .i64 0, .int .i64 0, .int .i64 0, .int .i64 0, .int .i64 0, .slice none 0 0, .slice none 0 0, .int .i64 0, .int .i64 0, .int .i64 0, .int .i64 0, .int .i64 0, .int .i64 0, .slice none 0 0]).cell? ⟨P, 2, none⟩ = some (.int .i64 (s5.f : Int)) := cell_at (i := 2) (((keeps_row w9.drew R #[.int .i64 0, .int .i64 0, .int .i64 0, .int .i64 0, .int .i64 0, .int .i64 0, .int .i64 0, .int .i64 0, .int .i64 0, .int .i64 0, .slice none 0 0, .slice none 0 0, .int .i64 0, .int .i64 0, .int .i64 0, .int .i64 0, .int .i64 0, .int .i64 0, .slice none 0 0]).block P (lt_of_block b5) (by have := L.out.r; have := L.out.p; omega)).trans b5) rfl
                have FR := Lib.hid (show (w9.drew.setRow R #[.int .i64 0, .int .i64 0, .int .i64 0, .int .i64 0, .int .i64 0, .int .i64 0, .int .i64 0, .int .i64 0, .int .i64 0, .int .i64 0, .slice none 0 0, .slice none 0 0, .int .i64 0, .int .i64 0, .int .i64 0, .int .i64 0, .int .i64 0, .int .i64 0, .slice none 0 0]).heap[R]? = some (.cells (edCells PEd.no Hd.nil Hd.nil Hd.nil).toArray 39 (0, 0)) from setRow_heap w9.drew _ _ _ _ _ bz)
                have GZ := Lib.hid (show GetER w ys (.returned (.tuple #[edV PEd.no Hd.nil Hd.nil Hd.nil, .int .i64 (s5.f : Int)])) (w9.drew.setRow R #[.int .i64 0, .int .i64 0, .int .i64 0, .int .i64 0, .int .i64 0, .int .i64 0, .int .i64 0, .int .i64 0, .int .i64 0, .int .i64 0, .slice none 0 0, .slice none 0 0, .int .i64 0, .int .i64 0, .int .i64 0, .int .i64 0, .int .i64 0, .int .i64 0, .slice none 0 0]) from getER_zero ((Keeps.drew U7.out.keep).trans (keeps_row w9.drew R #[.int .i64 0, .int .i64 0, .int .i64 0, .int .i64 0, .int .i64 0, .int .i64 0, .int .i64 0, .int .i64 0, .int .i64 0, .int .i64 0, .slice none 0 0, .slice none 0 0, .int .i64 0, .int .i64 0, .int .i64 0, .int .i64 0, .int .i64 0, .int .i64 0, .slice none 0 0]) (fun i hi x => by have := L.out.r; omega)) FE.out H0.out)
                clear bz
                go_upto_region 24 with (fail)
                go_region_law (fail)
                all_goals
                  go_wp2_with fail
                  refine bodyPost_ret (results_cell_row2 rfl _ _ R 39 (edCells PEd.no Hd.nil Hd.nil Hd.nil).toArray (0, 0) _ rfl FR.out Try.underlying39 rfl (sz PEd.no Hd.nil Hd.nil Hd.nil)) rfl ?_
                  exact GZ.out
end Go.Proofs.Ytcdhpidglchinaa
