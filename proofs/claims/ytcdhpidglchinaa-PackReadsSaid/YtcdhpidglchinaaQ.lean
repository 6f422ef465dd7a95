/- The anchor: an edit, there and back. -/
import Derived.Test.YtcdhpidglchinaaM
import Derived.Test.YtcdhpidglchinaaO
namespace Go.Proofs.Ytcdhpidglchinaa
open Go.RowKit Go.Lib Pk
set_option linter.unusedSimpArgs false
set_option linter.unusedVariables false

theorem ed_inj {e f : PEd} (h : e.ed = f.ed) : e = f := by
  cases e
  cases f
  simp only [PEd.ed, PEd.ten, PEd.six, Prod.mk.injEq, List.cons.injEq, and_true] at h
  simp only [PEd.mk.injEq]
  obtain ⟨⟨h1, h2, h3, h4, h5, h6, h7, h8, h9, h10⟩, h11, h12, ⟨h13, h14, h15, h16, h17, h18⟩, h19⟩ := h
  exact ⟨h1, h2, h3, h4, h5, h6, h7, h8, h9, h10, h11, h12, h13, h14, h15, h16, h17, h18, h19⟩
/-- What is told and isn't empty. -/
structure Row (w w' : World) (g n c : Nat) (zs : List Nat) : Prop where
  len : zs.length = n
  cap : n ≤ c
  cells : Cells 1 w' ⟨some ⟨g, 0, none⟩, n, c⟩ (bys zs)
  own : w'.ownsRow w.heap.size 5 1 (.slice (some ⟨g, 0, none⟩) n c) n (bys zs)
  keep : Keeps none' w w'
theorem told_row {w w' : World} {zs : List Nat} {en : Ending} (h : ToldB w zs en w') (hz : 0 < zs.length) : ∃ g n c, en = .returned (.slice (some ⟨g, 0, none⟩) n c) ∧ Row w w' g n c zs := by
  obtain ⟨⟨a, n, c⟩, he, hl, ho, hk⟩ := h
  have hc := (own_cells2 ho (bys_one _)).1
  obtain ⟨h1, h2⟩ := ho
  rcases h2 with ⟨_, h3⟩ | ⟨g, cap, cur, h3, hg, hh, p1, p2, p3, p4⟩
  · simp only at h3 hl; omega
  · simp only [Value.slice.injEq] at h3
    obtain ⟨rfl, _, rfl⟩ := h3
    exact ⟨g, n, c, he, hl, p1, hc, ⟨h1, .inr ⟨g, c, cur, rfl, hg, hh, p1, p2, p3, p4⟩⟩, hk⟩
theorem Cells.take {k : Nat} {w : World} {a : Option Addr} {n c m : Nat} {ys : List Nat} (h : Cells 1 w ⟨a, n, c⟩ (bys ys)) (hm : m ≤ n) : Cells 1 w ⟨a, m, c⟩ (bys (ys.take m)) := by
  have hl := h.len
  have hc := h.cap
  rw [bys_length] at hl
  simp only [Nat.mul_one] at hl hc
  refine ⟨by rw [bys_length, List.length_take]; show min m ys.length = m * 1; omega, by show m ≤ c; omega, ?_, bys_one _, ?_⟩
  · intro e
    have := h.abs e
    simp only at this
    show m = 0 ∧ c = 0
    omega
  · intro x hx hp
    obtain ⟨h1, h2, h3⟩ := h.at' x hx (by show 0 < n; simp only at hp; omega)
    refine ⟨h1, h2, fun j u hj => h3 j u ?_⟩
    unfold bys at hj ⊢
    rw [List.getElem?_map, List.getElem?_take] at hj
    rw [List.getElem?_map]
    split at hj
    · exact hj
    · cases hj
def e0 : PEd := ⟨64, -1, 0, 0, 0, 0, 0, 0, 0, 0, [], [], 0, 0, 0, 0, 0, 0, []⟩
theorem put64 : put 64 = [128, 1] := by
  show enc 128 = _
  rw [enc_big (by decide), enc_small (by decide)]
theorem put0 : put 0 = [0] := enc_small (by decide)
theorem putm1 : put (-1) = [1] := enc_small (by decide)
theorem e0_bytes : putE e0.ed = [128, 1, 1, 0, 0, 0, 0, 0, 0, 0, 0, 0, 0, 0, 0, 0, 0, 0, 0, 0] := by
  simp [putE, PEd.ed, e0, PEd.ten, PEd.six, putL, put64, put0, putm1]
theorem e0_ok : EdOk e0.ed := by
  refine ⟨⟨?_, rfl⟩, ⟨fun a h => absurd h List.not_mem_nil, by decide⟩, ⟨fun a h => absurd h List.not_mem_nil, by decide⟩, ⟨?_, rfl⟩, ⟨fun a h => absurd h List.not_mem_nil, by decide⟩⟩
  · intro a ha
    simp only [PEd.ed, e0, PEd.ten, List.mem_cons, List.not_mem_nil, or_false] at ha
    rcases ha with rfl | rfl | rfl | rfl | rfl | rfl | rfl | rfl | rfl | rfl <;> exact ⟨by decide, by decide⟩
  · intro a ha
    simp only [PEd.ed, e0, PEd.six, List.mem_cons, List.not_mem_nil, or_false] at ha
    rcases ha with rfl | rfl | rfl | rfl | rfl | rfl <;> exact ⟨by decide, by decide⟩
theorem putE_lt (e : Ed) : ∀ y ∈ putE e, y < 256 := codec_edit.bytes e
/-- What is got of an edit's form. -/
theorem get_back {w : World} {e : PEd} (ok : EdOk e.ed) (g : Hd) (hc : Cells 1 w g (bys (putE e.ed))) (hl : (putE e.ed).length ≤ 1000000) :
    Calls Try.prog 9 #[.slice g.a g.n g.c] w fun en w' => ∃ a b c : Hd, en = .returned (.tuple #[.agg (edCells e a b c).toArray, .int .i64 0]) ∧ EdIn w' e a b c ∧ Keeps none' w w' := by
  refine (GetEdit_any w g _ hc (putE_lt _) hl).mono ?_
  rintro en w' ⟨e', a, b, c, he, hi, -, hk, hif, -⟩
  have hb := edit_back ok
  rw [hb] at he hif
  obtain rfl := ed_inj (hif rfl)
  exact ⟨a, b, c, he, hi, hk⟩
/-- What is got of bytes that are none. -/
theorem get_no {w : World} {ys : List Nat} {F : Nat} (g : Hd) (hc : Cells 1 w g (bys ys)) (hy : ∀ y ∈ ys, y < 256) (hl : ys.length ≤ 1000000) (hf : fin (getE ⟨0, ys⟩).2 = F) (hF : F ≠ 0) :
    Calls Try.prog 9 #[.slice g.a g.n g.c] w fun en w' => en = .returned (.tuple #[.agg (edCells PEd.no Hd.nil Hd.nil Hd.nil).toArray, .int .i64 (F : Int)]) ∧ Keeps none' w w' := by
  refine (GetEdit_any w g _ hc hy hl).mono ?_
  rintro en w' ⟨e', a, b, c, he, hi, -, hk, -, hif⟩
  rw [hf] at he hif
  obtain ⟨rfl, rfl, rfl, rfl⟩ := hif hF
  exact ⟨he, hk⟩
/-- The law holds: true is answered, and nothing that was there has changed. -/
def Yes (w : World) (en : Ending) (w' : World) : Prop := en = .returned (.bool true) ∧ Keeps none' w w'
set_option maxRecDepth 100000 in
set_option maxHeartbeats 1600000 in
theorem anchor_any (w : World) : Calls Try.prog 7 #[] w (Yes w) := by
  obtain ⟨zs, hzs⟩ : ∃ zs, zs = putE e0.ed := ⟨_, rfl⟩
  have hz := e0_bytes
  rw [← hzs] at hz
  have hz20 : zs.length = 20 := by rw [hz]; rfl
  have C1 := Lib.hid (show Calls Try.prog 8 #[.agg #[.int .i64 64, .int .i64 (-1), .int .i64 0, .int .i64 0, .int .i64 0, .int .i64 0, .int .i64 0, .int .i64 0, .int .i64 0, .int .i64 0, .slice none 0 0, .slice none 0 0, .int .i64 0, .int .i64 0, .int .i64 0, .int .i64 0, .int .i64 0, .int .i64 0, .slice none 0 0]] w (ToldB w zs) from by rw [hzs]; exact PutEdit_any w e0 Hd.nil Hd.nil Hd.nil ⟨Cells.nil 1 w, Cells.nil 2 w, Cells.nil 1 w⟩ e0_ok (by decide))
  have C2 := Lib.hid (fun (w1 : World) (g n c : Nat) (r : Row w w1 g n c zs) => show Calls Try.prog 9 #[.slice (some ⟨g, 0, none⟩) n c] w1 _ from get_back (w := w1) (e := e0) e0_ok ⟨some ⟨g, 0, none⟩, n, c⟩ (by rw [← hzs]; exact r.cells) (by rw [← hzs]; omega))
  have C3 := Lib.hid (fun (w1 w2 : World) (g n c : Nat) (r : Row w w1 g n c zs) (k : Keeps none' w1 w2) => show Calls Try.prog 9 #[.slice (some ⟨g, 0, none⟩) 19 c] w2 (fun en w' => en = .returned (.tuple #[.agg (edCells PEd.no Hd.nil Hd.nil Hd.nil).toArray, .int .i64 20]) ∧ Keeps none' w2 w') from get_no (w := w2) (ys := zs.take 19) (F := 20) ⟨some ⟨g, 0, none⟩, 19, c⟩ ((r.cells.later k).take (k := 1) (by have := r.len; omega)) (by intro y hy; rw [hzs] at hy; exact putE_lt _ y (List.mem_of_mem_take hy)) (by rw [List.length_take]; omega) (by rw [hzs]; exact edit_cut e0_ok (by rw [← hzs]; omega)) (by decide))
  have RC := Lib.hid (fun (w1 w2 : World) (g n c : Nat) (r : Row w w1 g n c zs) (k : Keeps none' w1 w2) => show w2.cell? ⟨g, 0, none⟩ = some (.int .u8 128) ∧ w2.cell? ⟨g, 1, none⟩ = some (.int .u8 1) ∧ w2.cell? ⟨g, 2, none⟩ = some (.int .u8 1) from by
    have h := (r.cells.later k).at' _ rfl (by have := r.len; show 0 < n; omega)
    rw [hz] at h
    obtain ⟨_, _, h3⟩ := h
    simp only [Nat.zero_add] at h3
    exact ⟨h3 0 _ rfl, h3 1 _ rfl, h3 2 _ rfl⟩)
  have sz := szEd
  have LE := Lib.hid (fun (w1 : World) (g n c : Nat) (r : Row w w1 g n c zs) => show n = 20 from r.len.symm.trans hz20)
  have ST := Lib.hid (fun (w1 w2 : World) (e : PEd) (a b c : Hd) (hw : w2 = (w1.alloc (.cells #[.int .i64 0, .int .i64 0, .int .i64 0, .int .i64 0, .int .i64 0, .int .i64 0, .int .i64 0, .int .i64 0, .int .i64 0, .int .i64 0, .slice none 0 0, .slice none 0 0, .int .i64 0, .int .i64 0, .int .i64 0, .int .i64 0, .int .i64 0, .int .i64 0, .slice none 0 0] 27)).setRow w1.heap.size (edCells e a b c).toArray) => show Keeps none' w1 w2 ∧ Eb w2 27 w1.heap.size e a b c from by
    have hb : w2.heap[w1.heap.size]? = some (.cells (edCells e a b c).toArray 27 (0, 0)) := by rw [hw]; exact setRow_heap _ _ _ _ _ _ (heap_alloc_new w1 _)
    exact ⟨by rw [hw]; exact ((Keeps.refl none' w1).alloc _).trans (keeps_row _ _ _) (fun i hi x => by omega), hb⟩)
  have HZ := Lib.hid hz
  clear hz hzs
  have ZB := Lib.hid (fun (w1 : World) => heap_alloc_new w1 (.cells #[.int .i64 0, .int .i64 0, .int .i64 0, .int .i64 0, .int .i64 0, .int .i64 0, .int .i64 0, .int .i64 0, .int .i64 0, .int .i64 0, .slice none 0 0, .slice none 0 0, .int .i64 0, .int .i64 0, .int .i64 0, .int .i64 0, .int .i64 0, .int .i64 0, .slice none 0 0] 27))
  go_enter Try.func7, Try.ntmps7
  go_wp2_with (first
    | (go_at_call 8; ((with_reducible refine C1.out.mono ?_); rintro en w1 t1; obtain ⟨g, n, c, rfl, r1⟩ := told_row t1 (by omega); obtain rfl := LE.out _ _ _ _ r1; have hcap := r1.cap; have R1 := Lib.hid r1; clear t1 r1))
    | (go_at_call 9; ((with_reducible refine (C2.out _ _ _ _ R1.out).mono ?_); rintro en w2 ⟨a, b, d, rfl, -, k2⟩; have K2 := Lib.hid k2; clear k2))
    | (refine wpList_store_row rfl 27 _ _ rfl w2.heap.size (edCells e0 a b d).toArray rfl rfl 27 _ (ZB.out w2) (sz e0 a b d) rfl (ed_all e0 a b d) ?_; obtain ⟨w3, hw⟩ : ∃ w3, w3 = (w2.alloc (.cells #[.int .i64 0, .int .i64 0, .int .i64 0, .int .i64 0, .int .i64 0, .int .i64 0, .int .i64 0, .int .i64 0, .int .i64 0, .int .i64 0, .slice none 0 0, .slice none 0 0, .int .i64 0, .int .i64 0, .int .i64 0, .int .i64 0, .int .i64 0, .int .i64 0, .slice none 0 0] 27)).setRow w2.heap.size (edCells e0 a b d).toArray := ⟨_, rfl⟩; rw [← hw]; have S1 := Lib.hid (ST.out w2 w3 e0 a b d hw); clear hw)
    | (go_at_call 9; ((with_reducible refine (C3.out _ w3 _ _ _ R1.out (K2.out.next S1.out.1)).mono ?_); rintro en w4 ⟨rfl, k4⟩; have K4 := Lib.hid k4; clear k4))
    | (refine wpList_store_row rfl 27 _ _ rfl w4.heap.size (edCells PEd.no Hd.nil Hd.nil Hd.nil).toArray rfl rfl 27 _ (ZB.out w4) (sz PEd.no Hd.nil Hd.nil Hd.nil) rfl (ed_all _ _ _ _) ?_; obtain ⟨w5, hw⟩ : ∃ w5, w5 = (w4.alloc (.cells #[.int .i64 0, .int .i64 0, .int .i64 0, .int .i64 0, .int .i64 0, .int .i64 0, .int .i64 0, .int .i64 0, .int .i64 0, .int .i64 0, .slice none 0 0, .slice none 0 0, .int .i64 0, .int .i64 0, .int .i64 0, .int .i64 0, .int .i64 0, .int .i64 0, .slice none 0 0] 27)).setRow w4.heap.size (edCells PEd.no Hd.nil Hd.nil Hd.nil).toArray := ⟨_, rfl⟩; rw [← hw]; have S2 := Lib.hid (ST.out w4 w5 PEd.no Hd.nil Hd.nil Hd.nil hw); clear hw; have KK := Lib.hid (((K2.out.next S1.out.1).next K4.out).next S2.out.1); obtain ⟨c0, c1, c2⟩ := RC.out _ _ _ _ _ R1.out KK.out; have E1 := S1.out.2.keep (K4.out.next S2.out.1) (fun x => x); have d0 : w5.cell? ⟨w2.heap.size, 0, none⟩ = some (.int .i64 64) := E1.c0; have d1 : w5.cell? ⟨w2.heap.size, 1, none⟩ = some (.int .i64 (-1)) := E1.c1; clear E1))
  go_ret
  exact ⟨rfl, R1.out.keep.next KK.out⟩
end Go.Proofs.Ytcdhpidglchinaa
