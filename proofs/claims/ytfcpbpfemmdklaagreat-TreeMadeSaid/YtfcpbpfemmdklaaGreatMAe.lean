/- Texts of a layer, one behind the other. -/
import Derived.Test.YtfcpbpfemmdklaaGreatMAd
import Derived.Test.YtfcpbpfemmdklaaGreatMAb
/- What a document is behind a layer put into one of its homes, and behind one taken out. -/
namespace Go.Proofs.YtfcpbpfemmdklaaGreat.Tr
open Go.RowKit Go.Lib
set_option linter.unusedSimpArgs false
set_option linter.unusedVariables false

theorem ownBlock_blk {h : Hd} {q : Nat} : (Value.slice h.a h.n h.c).ownBlock = some q ↔ q ∈ h.blk := by
  obtain ⟨a, n, c⟩ := h
  cases a with
  | none => simp [Value.ownBlock, Hd.blk]
  | some x => simp [Value.ownBlock, Hd.blk, eq_comm]
theorem kb_mem {B : Nat} {w : World} {C : List Frm} {h : Hd} (R : Nat) (c : CtxOwn B w C h) : kbOf R C = R ∨ kbOf R C ∈ outs C := by
  cases C with
  | nil => exact .inl rfl
  | cons f C =>
    rw [CtxOwn] at c
    obtain ⟨eb, -⟩ := c.1.blk_eq (by have := row_pos f h []; omega)
    exact .inr (by rw [outs, Frm.rest, eb]; simp [kbOf])
theorem OwnR.rangeB {B : Nat} {w : World} {e k : Nat} {h : Hd} {vs : List Value} (o : OwnR B w e k h vs) : ∀ b ∈ h.blk, B ≤ b ∧ b < w.heap.size := o.range
theorem Whole.lt {B : Nat} {w : World} {R : Nat} {x y z : Int} {C : List Frm} {h : Hd} {ls : List Loc} (W : Whole B w R x y z (plugH C h) (plugL C h ls)) : ∀ b ∈ (h.blk ++ blks ls) ++ outs C, B ≤ b ∧ b < w.heap.size := by
  intro b hb
  have hb2 := (plug_perm C h ls).mem_iff.2 hb
  rcases List.mem_append.1 hb2 with hb2 | hb2
  · exact W.row.range b hb2
  · exact W.own.range b hb2
theorem blks_take_drop (ls : List Loc) (l : Loc) (i : Nat) : (blks (ls.take i ++ l :: ls.drop i)).Perm (blks [l] ++ blks ls) := by
  have e : blks ls = blks (ls.take i) ++ blks (ls.drop i) := by rw [← blks_append, List.take_append_drop]
  have e2 : ls.take i ++ l :: ls.drop i = ls.take i ++ ([l] ++ ls.drop i) := rfl
  rw [e2, blks_append, blks_append, e, List.perm_iff_count]
  intro a
  simp only [List.count_append]
  omega
/-- A layer put in. -/
theorem put_whole {B : Nat} {w W1 : World} {R : Nat} {x y z : Int} {C : List Frm} {h h' : Hd} {ls : List Loc} {lx : Loc} {i : Nat} (W : Whole B w R x y z (plugH C h) (plugL C h ls))
    (ox : Own B w [lx]) (nx : (blks [lx]).Nodup) (dx : ∀ b ∈ blks [lx], b ≠ R ∧ b ∉ (h.blk ++ blks ls) ++ outs C)
    (row : OwnR B W1 51 19 h' (flat (ls.take i ++ lx :: ls.drop i))) (k1 : Keeps (fun q => (Value.slice h.a h.n h.c).ownBlock = some q) w W1) (no : NewOr w h h') :
    Whole B (W1.setCell ⟨kbOf R C, koOf C, none⟩ (.slice h'.a h'.n h'.c)) R x y z (plugH C h') (plugL C h' (ls.take i ++ lx :: ls.drop i)) ∧ Keeps (fun q => q ∈ h.blk ∨ q = kbOf R C) w (W1.setCell ⟨kbOf R C, koOf C, none⟩ (.slice h'.a h'.n h'.c)) := by
  obtain ⟨rowh, ownl, c0⟩ := W.ctx
  have hlt := W.lt
  have nd := W.nd
  have out := W.out'
  have hRlt := lt_of_block W.doc
  have kbm := kb_mem R c0
  have ndo := List.nodup_append.1 nd
  have ndh := List.nodup_append.1 ndo.1
  have hkb_h : kbOf R C ∉ h.blk := by
    intro e
    rcases kbm with e2 | e2
    · exact out (by rw [← e2]; simp [e])
    · exact ndo.2.2 _ (List.mem_append.2 (.inl e)) _ e2 rfl
  have hkb_l : kbOf R C ∉ blks ls := by
    intro e
    rcases kbm with e2 | e2
    · exact out (by rw [← e2]; simp [e])
    · exact ndo.2.2 _ (List.mem_append.2 (.inr e)) _ e2 rfl
  have hkblt : kbOf R C < w.heap.size := by
    rcases kbm with e2 | e2
    · rw [e2]; exact hRlt
    · exact (hlt _ (List.mem_append.2 (.inr e2))).2
  have k1' : Keeps (fun q => q ∈ h.blk ∨ q = kbOf R C) w W1 := keeps_weak k1 (fun q _ e => .inl (ownBlock_blk.1 e))
  have k : Keeps (fun q => q ∈ h.blk ∨ q = kbOf R C) w (W1.setCell ⟨kbOf R C, koOf C, none⟩ (.slice h'.a h'.n h'.c)) := k1'.trans (keeps_at W1 (kbOf R C) (koOf C) _) (fun q _ e => .inr e)
  have hdx : ∀ b ∈ blks [lx], b ∉ h.blk ∧ b ∉ blks ls ∧ b ≠ kbOf R C ∧ b < w.heap.size := by
    intro b hb
    obtain ⟨d1, d2⟩ := dx b hb
    simp only [List.mem_append, not_or] at d2
    refine ⟨d2.1.1, d2.1.2, fun e => ?_, (ox.range b hb).2⟩
    rcases kbm with e2 | e2
    · exact d1 (e.trans e2)
    · exact d2.2 (e ▸ e2)
  have mh : ∀ b ∈ h'.blk, b ∈ h.blk ∨ w.heap.size ≤ b := fun b hb => (no b (ownBlock_blk.2 hb)).imp (fun e => ownBlock_blk.1 e) id
  have hown : Own B w (ls.take i ++ lx :: ls.drop i) := by
    have e1 : Own B w (ls.take i ++ ls.drop i) := by rw [List.take_append_drop]; exact ownl
    rw [own_append] at e1
    have e2 : ls.take i ++ lx :: ls.drop i = ls.take i ++ ([lx] ++ ls.drop i) := rfl
    rw [e2, own_append, own_append]
    exact ⟨e1.1, ox, e1.2⟩
  have pm := blks_take_drop ls lx i
  refine ⟨Whole.swap h' (ls.take i ++ lx :: ls.drop i) W k ?_ ?_ ?_ ?_ ?_ ?_, k⟩
  · rintro b hb hne (e | e)
    · rcases hb with rfl | hb
      · exact out (by simp [e])
      · exact ndo.2.2 _ (List.mem_append.2 (.inl e)) _ hb rfl
    · exact hne e
  · have e1 : W1.heap[kbOf R C]? = w.heap[kbOf R C]? := k1.block _ hkblt (fun e => hkb_h (ownBlock_blk.1 e))
    simp only [World.setCell, Array.getElem?_modify, e1]
  · refine row.keepB (keeps_at W1 (kbOf R C) (koOf C) _) (fun b hb e => ?_)
    have e' : b = kbOf R C := e
    subst e'
    rcases mh _ hb with h1 | h1
    · exact hkb_h h1
    · omega
  · refine hown.keep k (fun b hb e => ?_)
    rcases List.mem_append.1 (pm.mem_iff.1 hb) with hb | hb
    · rcases e with e | e
      · exact (hdx b hb).1 e
      · exact (hdx b hb).2.2.1 e
    · rcases e with e | e
      · exact ndh.2.2 _ e _ hb rfl
      · exact hkb_l (e ▸ hb)
  · rw [(pm.append_left h'.blk).nodup_iff]
    refine List.nodup_append.2 ⟨Hd.blk_nodup _, List.nodup_append.2 ⟨nx, ndh.2.1, fun a ha b hb e => (hdx a ha).2.1 (e ▸ hb)⟩, ?_⟩
    intro a ha b hb e
    subst e
    rcases mh _ ha with h1 | h1
    · rcases List.mem_append.1 hb with hb | hb
      · exact (hdx _ hb).1 h1
      · exact ndh.2.2 _ h1 _ hb rfl
    · rcases List.mem_append.1 hb with hb | hb
      · have := (hdx _ hb).2.2.2; omega
      · have := (hlt _ (List.mem_append.2 (.inl (List.mem_append.2 (.inr hb))))).2; omega
  · intro b hb
    rcases List.mem_append.1 hb with hb | hb
    · rcases mh _ hb with h1 | h1
      · exact ⟨fun e => out (by rw [← e]; simp [h1]), fun e => ndo.2.2 _ (List.mem_append.2 (.inl h1)) _ e rfl⟩
      · exact ⟨fun e => by omega, fun e => by have := (hlt _ (List.mem_append.2 (.inr e))).2; omega⟩
    · rcases List.mem_append.1 (pm.mem_iff.1 hb) with hb | hb
      · obtain ⟨d1, d2⟩ := dx b hb
        exact ⟨d1, fun e => d2 (List.mem_append.2 (.inr e))⟩
      · exact ⟨fun e => out (by rw [← e]; simp [hb]), fun e => ndo.2.2 _ (List.mem_append.2 (.inr hb)) _ e rfl⟩
theorem erase_mid (pre : List Loc) (l : Loc) (post : List Loc) : (pre ++ l :: post).eraseIdx pre.length = pre ++ post := by
  induction pre with
  | nil => rfl
  | cons a pre ih => rw [List.cons_append, List.length_cons, List.eraseIdx_cons_succ, ih]; rfl
/-- A layer taken out. -/
theorem take_whole {B : Nat} {w w' : World} {R : Nat} {x y z : Int} {C : List Frm} {g n c : Nat} {pre post : List Loc} {l : Loc} (W : Whole B w R x y z (plugH C ⟨some ⟨g, 0, none⟩, n, c⟩) (plugL C ⟨some ⟨g, 0, none⟩, n, c⟩ (pre ++ l :: post)))
    (T : Took B w (kbOf R C) (koOf C) g (n - 1) c (flat (pre ++ post)) w') :
    Whole B w' R x y z (plugH C ⟨some ⟨g, 0, none⟩, n - 1, c⟩) (plugL C ⟨some ⟨g, 0, none⟩, n - 1, c⟩ (pre ++ post)) ∧ Own B w' [l] ∧ (blks [l]).Nodup ∧ ∀ b ∈ blks [l], b ≠ R ∧ b ∉ ([g] ++ blks (pre ++ post)) ++ outs C := by
  obtain ⟨rowh, ownl, c0⟩ := W.ctx
  have nd := W.nd
  have out := W.out'
  have kbm := kb_mem R c0
  have ndo := List.nodup_append.1 nd
  have ndh := List.nodup_append.1 ndo.1
  have gb : (⟨some ⟨g, 0, none⟩, n, c⟩ : Hd).blk = [g] := rfl
  rw [gb] at nd out ndo ndh
  have eb : (blks (pre ++ l :: post)).Perm (blks [l] ++ blks (pre ++ post)) := by
    have e2 : pre ++ l :: post = pre ++ ([l] ++ post) := rfl
    rw [e2, blks_append, blks_append, blks_append, List.perm_iff_count]
    intro a
    simp only [List.count_append]
    omega
  have mb : ∀ b, b ∈ blks [l] ∨ b ∈ blks (pre ++ post) → b ∈ blks (pre ++ l :: post) := fun b hb => eb.mem_iff.2 (List.mem_append.2 hb)
  have hkb_l : kbOf R C ∉ blks (pre ++ l :: post) := by
    intro e
    rcases kbm with e2 | e2
    · exact out (by rw [← e2]; simp [e])
    · exact ndo.2.2 _ (List.mem_append.2 (.inr e)) _ e2 rfl
  have hX : ∀ b ∈ blks (pre ++ l :: post), ¬ (b = g ∨ b = kbOf R C) := by
    rintro b hb (e | e)
    · exact ndh.2.2 g (by simp) b hb e.symm
    · exact hkb_l (e ▸ hb)
  have e0 : Own B w (pre ++ ([l] ++ post)) := ownl
  rw [own_append, own_append] at e0
  have nb := eb.nodup_iff.1 ndh.2.1
  refine ⟨Whole.swap ⟨some ⟨g, 0, none⟩, n - 1, c⟩ (pre ++ post) W T.keeps ?_ T.kb T.row ?_ ?_ ?_, ?_, (List.nodup_append.1 nb).1, ?_⟩
  · rintro b hb hne (e | e)
    · rcases hb with rfl | hb
      · exact out (by simp [e])
      · exact ndo.2.2 g (by simp) b hb e.symm
    · exact hne e
  · exact (own_append.2 ⟨e0.1, e0.2.2⟩ : Own B w (pre ++ post)).keep T.keeps (fun b hb => hX b (mb b (.inr hb)))
  · exact List.nodup_append.2 ⟨Hd.blk_nodup _, (List.nodup_append.1 nb).2.1, fun a ha b hb e => ndh.2.2 a ha b (mb b (.inr hb)) e⟩
  · intro b hb
    have hb2 : b ∈ [g] ++ blks (pre ++ l :: post) := by
      rcases List.mem_append.1 hb with hb | hb
      · exact List.mem_append.2 (.inl hb)
      · exact List.mem_append.2 (.inr (mb b (.inr hb)))
    exact ⟨fun e => out (by rw [← e]; exact List.mem_append.2 (.inl hb2)), fun e => ndo.2.2 _ hb2 _ e rfl⟩
  · exact e0.2.1.keep T.keeps (fun b hb => hX b (mb b (.inl hb)))
  · intro b hb
    have hb2 := mb b (.inl hb)
    refine ⟨fun e => out (by rw [← e]; simp [hb2]), fun e => ?_⟩
    rcases List.mem_append.1 e with e | e
    · rcases List.mem_append.1 e with e | e
      · exact ndh.2.2 _ e _ hb2 rfl
      · exact (List.nodup_append.1 nb).2.2 _ hb _ e rfl
    · exact ndo.2.2 _ (List.mem_append.2 (.inr hb2)) _ e rfl
end Go.Proofs.YtfcpbpfemmdklaaGreat.Tr

/- New, the map that does nothing, copies of documents, all deeds, Parent. -/
namespace Go.Proofs.YtfcpbpfemmdklaaGreat.Tr
open Go.RowKit Go.Lib
set_option linter.unusedSimpArgs false
set_option linter.unusedVariables false

theorem four_set {w : World} {R : Nat} {x y z v : Value} {t : TypeId} (h : w.heap[R]? = some (.cells #[x, y, z, v] t (0, 0))) (x' y' z' v' : Value) :
    ((((w.setCell ⟨R, 0, none⟩ x').setCell ⟨R, 1, none⟩ y').setCell ⟨R, 2, none⟩ z').setCell ⟨R, 3, none⟩ v').heap[R]? = some (.cells #[x', y', z', v'] t (0, 0)) := by
  have h0 := block_set (i := 0) h x'
  have h1 := block_set (i := 1) h0 y'
  have h2 := block_set (i := 2) h1 z'
  have h3 := block_set (i := 3) h2 v'
  exact h3
theorem keeps_set4 {w w' : World} (k : Keeps none' w w') {Z : Nat} (hZ : w.heap.size ≤ Z) (x y z v : Value) : Keeps none' w ((((w'.setCell ⟨Z, 0, none⟩ x).setCell ⟨Z, 1, none⟩ y).setCell ⟨Z, 2, none⟩ z).setCell ⟨Z, 3, none⟩ v) :=
  (keeps_set3 k hZ x y z).setCell (fun e => by have e' : Z < w.heap.size := e; omega) _
def docV (x y z : Int) (h : Hd) : Value := .agg #[.int .i64 x, .int .i64 y, .int .i64 z, .slice h.a h.n h.c]
set_option maxRecDepth 100000 in
set_option maxHeartbeats 800000 in
theorem new7 (x y : Int) (w : World) : Calls Tryz.prog 23 #[.int .i64 x, .int .i64 y] w fun e w' => e = .returned (.tuple (if areaP x y = true then #[docV x y 1 Hd.nil, .int .i64 0] else #[docV 0 0 0 Hd.nil, .int .i64 31])) ∧ Keeps none' w w' := by
  have R0 := Lib.hid (heap_alloc_new w (.cells #[.int .i64 0, .int .i64 0, .int .i64 0, .slice none 0 0] 26))
  have K0 := Lib.hid ((Keeps.refl none' w).alloc (.cells #[.int .i64 0, .int .i64 0, .int .i64 0, .slice none 0 0] 26))
  obtain ⟨Z, hZ⟩ : ∃ Z, Z = w.heap.size := ⟨_, rfl⟩
  have ZS := Lib.hid hZ
  rw [← hZ] at R0
  obtain ⟨⟨r0, r1, r2, r3⟩, rf⟩ := four_cells R0.out
  have f0 := rf 0
  have f1 := rf 1
  have f2 := rf 2
  have f3 := rf 3
  clear rf
  cases h1 : areaP x y with
  | true =>
    go_enter Tryz.func23, Tryz.ntmps23
    go_upto_region 1 with (fail)
    rw [← hZ]
    clear hZ
    generalize w.alloc (.cells #[.int .i64 0, .int .i64 0, .int .i64 0, .slice none 0 0] 26) = w1 at *
    go_wp2_with (refine (area16 x y w1).mono ?_; rw [h1]; rintro e w2 ⟨rfl, hw⟩; subst hw)
    refine bodyPost_ret (results_cell_row2 rfl _ _ Z 26 _ (0, 0) _ rfl (four_set R0.out _ _ _ _) Tryz.underlying26 rfl (by kernel_rfl)) rfl ?_
    exact ⟨rfl, keeps_set4 K0.out (by rw [ZS.out]; exact Nat.le_refl _) _ _ _ _⟩
  | false =>
    go_enter Tryz.func23, Tryz.ntmps23
    go_upto_region 1 with (fail)
    rw [← hZ]
    clear hZ
    generalize w.alloc (.cells #[.int .i64 0, .int .i64 0, .int .i64 0, .slice none 0 0] 26) = w1 at *
    go_wp2_with (refine (area16 x y w1).mono ?_; rw [h1]; rintro e w2 ⟨rfl, hw⟩; subst hw)
    refine bodyPost_ret (results_cell_row2 rfl _ _ Z 26 _ (0, 0) _ rfl (four_set R0.out _ _ _ _) Tryz.underlying26 rfl (by kernel_rfl)) rfl ?_
    exact ⟨rfl, keeps_set4 K0.out (by rw [ZS.out]; exact Nat.le_refl _) _ _ _ _⟩
set_option maxRecDepth 100000 in
set_option maxHeartbeats 800000 in
theorem one66 (w : World) : Calls Tryz.prog 103 #[] w fun e w' => e = .returned (.agg #[.int .i64 65536, .int .i64 0, .int .i64 0, .int .i64 65536, .int .i64 0, .int .i64 0]) ∧ Keeps none' w w' := by
  have K0 := Lib.hid ((Keeps.refl none' w).alloc (.cells #[.int .i64 65536, .int .i64 0, .int .i64 0, .int .i64 65536, .int .i64 0, .int .i64 0] 36))
  go_enter Tryz.func103, Tryz.ntmps103
  go_wp2
  exact bodyPost_ret (results_cell_row rfl _ _ w.heap.size 36 #[.int .i64 65536, .int .i64 0, .int .i64 0, .int .i64 65536, .int .i64 0, .int .i64 0] (0, 0) _ rfl (heap_alloc_new _ _) Tryz.underlying36 rfl (by kernel_rfl)) rfl ⟨rfl, K0.out⟩
set_option maxRecDepth 100000 in
set_option maxHeartbeats 800000 in
theorem deeds17 (w : World) : Calls Tryz.prog 26 #[] w fun e w' => e = .returned (.slice (some ⟨w.heap.size, 0, none⟩) 10 10) ∧ ∃ f0 : Value, w' = w.alloc (.cells #[f0, .func (.func 46) #[] #[], .func (.func 47) #[] #[], .func (.func 48) #[] #[], .func (.func 49) #[] #[], .func (.func 50) #[] #[], .func (.func 51) #[] #[], .func (.func 52) #[] #[], .func (.func 53) #[] #[], .func (.func 54) #[] #[]] 73) := by
  go_enter Tryz.func26, Tryz.ntmps26
  go_wp2
  go_ret
  exact ⟨rfl, _, rfl⟩
end Go.Proofs.YtfcpbpfemmdklaaGreat.Tr
