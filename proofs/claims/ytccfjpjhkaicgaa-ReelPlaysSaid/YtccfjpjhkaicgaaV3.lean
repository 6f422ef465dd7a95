/- One step of a play: Append. -/
import Derived.Test.YtccfjpjhkaicgaaV2
import Derived.Deep.RegionLaw
namespace Go.Proofs.Ytccfjpjhkaicgaa
open Go.RowKit

set_option maxRecDepth 100000 in
set_option maxHeartbeats 800000 in
theorem step_append_down (w W : World) (R T : Nat) (m : M) (h : Both w R m T m W) (N K : Int) (a : Option Addr) (n c : Nat) (ys : List Int) (ho : Opnd w a n c ys) (hd : m.down = true) :
    Calls Try.prog 10 #[.pointer (some ⟨R, 0, none⟩), .pointer (some ⟨T, 0, none⟩), .agg #[.int .i64 1, .int .i64 N, .int .i64 K, .slice a n c]] W (Stepped w R T) := by
  obtain ⟨hs, hf, hn⟩ := ho
  obtain ⟨E, ct, l, hb, hT, hR, hl, hxs, hfx⟩ := h.cells
  obtain ⟨h0, h1, h2, h3, h4, h5⟩ := twin_cells hb
  rw [hd] at h5
  have ha := h.alloc #[.int .i64 1, .int .i64 N, .int .i64 K, .slice a n c] 31
  have C := append_b ha (ha.both.src hs) hf
  rw [show m.append ys = (11, m) by unfold M.append; rw [if_pos hd]] at C
  have C := Lib.hid C
  clear h0 h1 h2 h3 h4 hb hl hxs hfx hd h ha hs hf
  go_enter Try.func10, Try.ntmps10
  go_wp2_with fail
  refine C.out.mono ?_
  rintro e W1 ⟨rfl, h1⟩
  have H := Lib.hid (Stepped.of h1.both)
  clear h1
  go_wp2_with fail
  go_ret
  exact H.out

set_option maxRecDepth 100000 in
set_option maxHeartbeats 800000 in
theorem step_append_full (w W : World) (R T : Nat) (m : M) (h : Both w R m T m W) (N K : Int) (a : Option Addr) (n c : Nat) (ys : List Int) (ho : Opnd w a n c ys) (hd : m.down = false) (hr : m.cap < (m.xs.length : Int) + n) :
    Calls Try.prog 10 #[.pointer (some ⟨R, 0, none⟩), .pointer (some ⟨T, 0, none⟩), .agg #[.int .i64 1, .int .i64 N, .int .i64 K, .slice a n c]] W (Stepped w R T) := by
  obtain ⟨hs, hf, hn⟩ := ho
  obtain ⟨E, ct, l, hb, hT, hR, hl, hxs, hfx⟩ := h.cells
  obtain ⟨h0, h1, h2, h3, h4, h5⟩ := twin_cells hb
  have hl0 : m.xs.length ≤ 16777216 := by have := h.ok.len; have := h.ok.cap1; omega
  rw [hd] at h5
  have ha := h.alloc #[.int .i64 1, .int .i64 N, .int .i64 K, .slice a n c] 31
  have C := fun q : Nat => append_b (ha.drewN q) ((ha.drewN q).both.src hs) hf
  rw [show m.append ys = (10, m) by unfold M.append; rw [if_neg (by simp [hd]), if_pos (by rw [hs.1]; omega)]] at C
  have C := Lib.hid C
  clear h2 h3 h4 hb hl hxs hfx hd h ha hs hf
  go_enter Try.func10, Try.ntmps10
  go_wp2_with fail
  go_quiet (fail)
  go_wp2_with fail
  refine (C.out _).mono ?_
  rintro e W1 ⟨rfl, h1⟩
  have H := Lib.hid (Stepped.of h1.both)
  clear h1
  go_wp2_with fail
  go_ret
  exact H.out

theorem step_append_first {w : World} {ops : Array Oper} {o : Oper} {a : Act} {K : Act → World → Prop} {Q : Exit → Act → World → Prop} {E : Prop} (hgd : o.guard = none) (s x : Operand) (ho : o.op = .call { callee := .builtin .append, args := #[s, x], argTypes := #[27, 27] })
    (base g0 : Nat) (hs : a.eval s = .slice (some ⟨g0, 0, none⟩) 0 0) (hown : w.ownsRow base 5 1 (.slice (some ⟨g0, 0, none⟩) 0 0) 0 [])
    (ad : Option Addr) (m c : Nat) (ys : List Int) (hx : a.eval x = .slice ad m c) (hsrc : Src w ad m ys) (hc : ad = none → c = 0) (hb : m ≤ 33554432) (hbase : base ≤ w.heap.size)
    (h : ∀ g cap w', w'.ownsRow base 5 1 (.slice (some ⟨g, 0, none⟩) m cap) m (ys.map (Value.int .u8)) → w.grownBy w' (some g0) → (g = g0 ∨ g = w.heap.size) → K (a.put o.dst (.slice (some ⟨g, 0, none⟩) m cap)) w') :
    if Region.wanted o (yielded ops a.tmps) = true then Oper.wp Try.prog o a w K Q else E := by
  refine step_append_src hgd s x ho base g0 0 0 [] hs hown ad m c ys hx hsrc hc (by omega) hbase ?_
  intro g cap w' h1 h2 h3
  rw [Nat.zero_add, List.nil_append] at h1
  rw [Nat.zero_add]
  exact h g cap w' h1 h2 h3

/-- The document's bytes laid anew. -/
theorem BothP.bytes_set {w W1 w3 : World} {R T O : Nat} {ob : Obj} {m mt : M} (h : BothP w R m T mt O ob W1) (hb : Below W1.heap.size W1 w3) (g cap n' : Nat) (zs : List Int) (hg : W1.heap.size ≤ g) {B : Nat} (hown : w3.ownsRow B 5 1 (.slice (some ⟨g, 0, none⟩) n' cap) n' (zs.map (Value.int .u8)))
    (ok : M.Ok { mt with xs := zs }) : BothP w R m T { mt with xs := zs } O ob (w3.setCell ⟨T, 0, none⟩ (.slice (some ⟨g, 0, none⟩) n' cap)) := by
  have hn : n' = zs.length := by have := hown.1; simpa using this.symm
  subst hn
  obtain ⟨D, E, q1, q2, h3, h4, h5, h6, q7, q8⟩ := h
  have hT0 := q2.lt
  have hOlt := lt_of_block q8.1
  have h1 := q1.kept (hb.block _ q1.lt) (fun k e => hb.block _ (q1.data_lt e).2)
  have h2 := q2.kept hb.size (hb.block _ q2.lt) (fun k e => hb.block _ (q2.own k e).2)
  have h7 := q7.own (below_keeps hb) (fun _ h => h.elim)
  have h8 : w3.heap[O]? = some ob ∧ O ≠ R ∧ O ≠ T ∧ D ≠ some O ∧ E ≠ some O := ⟨(hb.block _ hOlt).trans q8.1, q8.2⟩
  obtain ⟨c, l, hbt, hl, hs, hf⟩ := h2.holds
  have hsz := h7.size
  rcases hown.2 with ⟨e, _⟩ | ⟨g', cap', cur, e, _, hh, p1, p2, p3, p4⟩
  · cases e
  · cases e
    have hsrc : Src w3 (headOf (some g)) zs.length zs := by
      refine ⟨rfl, ok.byte, Or.inr ⟨_, rfl, ?_⟩⟩
      have k1 := cell_at (at_ := 0) (n := zs.length) (len := zs.length) (xs := zs) hh (by simpa using p4)
      rw [List.drop_zero, List.take_of_length_le (Nat.le_refl _)] at k1
      exact k1
    have hgl := lt_of_block hh
    have hkeep := Keeps.one w3 T 0 (.slice (some ⟨g, 0, none⟩) zs.length cap)
    have h1' := h1.keeps hkeep h3 (fun k ek e => h4 (by rw [ek, e]))
    have hO : O ≠ T := h8.2.2.1
    have hRlt : R < W1.heap.size := q1.lt
    refine ⟨D, some g, h1', ⟨ok, h2.at_, ⟨cap, l, ?_, hl, ?_, ⟨p1, p2, fun e => by cases e⟩⟩, ?_, ?_⟩, h3, h4, ?_, ?_, h7.own hkeep (fun i e => by rw [e]; exact h2.at_), ?_, h8.2.1, hO, h8.2.2.2.1, ?_⟩
    · rw [block_set hbt]; simp [headOf]
    · exact hsrc.setOther (p := ⟨T, 0, none⟩) (by intro ad e; cases e; simp only; omega) _
    · intro k e
      cases e
      refine ⟨?_, by simpa [World.setCell] using hgl⟩
      have := hb.size
      have : w.heap.size ≤ W1.heap.size := by
        have := q2.at_
        omega
      omega
    · intro e; cases e; omega
    · intro e; cases e; omega
    · intro k ek e
      cases e
      have := (q1.data_lt ek).2
      omega
    · rw [Below.heap_setCell _ _ _ _ hO]; exact h8.1
    · intro e; cases e; omega

set_option maxRecDepth 100000 in
set_option maxHeartbeats 1600000 in
theorem step_append_fits (w W : World) (R T : Nat) (m : M) (h : Both w R m T m W) (N K : Int) (a : Option Addr) (n c : Nat) (ys : List Int) (ho : Opnd w a n c ys) (hd : m.down = false) (hr : (m.xs.length : Int) + n ≤ m.cap) :
    Calls Try.prog 10 #[.pointer (some ⟨R, 0, none⟩), .pointer (some ⟨T, 0, none⟩), .agg #[.int .i64 1, .int .i64 N, .int .i64 K, .slice a n c]] W (Stepped w R T) := by
  obtain ⟨hs, hf, hn⟩ := ho
  obtain ⟨E, ct, l, hb, hT, hR, hl, hxs, hfx⟩ := h.cells
  obtain ⟨h0, h1, h2, h3, h4, h5⟩ := twin_cells hb
  have hl0 : m.xs.length ≤ 16777216 := by have := h.ok.len; have := h.ok.cap1; omega
  rw [hd] at h5
  have hsz := h.size
  have HA := Lib.hid (h.alloc #[.int .i64 1, .int .i64 N, .int .i64 K, .slice a n c] 31)
  have HS := Lib.hid hs
  have HF := Lib.hid hf
  have HD := Lib.hid hd
  have HX := Lib.hid hxs
  have HFX := Lib.hid hfx
  have HAP := Lib.hid (show m.append ys = M.spend { m with xs := m.xs ++ ys } by unfold M.append; rw [if_neg (by simp [hd]), if_neg (by rw [hs.1]; omega)])
  have OK2 := Lib.hid (show M.Ok { m with xs := m.xs ++ ys } from ⟨h.ok.cap0, h.ok.cap1, by simp only [List.length_append, hs.1]; omega, h.ok.safe0, by have := h.ok.safe1; simp only [List.length_append]; omega, h.ok.left0, h.ok.left1, by
    intro x hx
    rcases List.mem_append.1 hx with hx | hx
    · exact h.ok.byte x hx
    · exact hs.2.1 x hx⟩)
  clear h2 h3 h4 hb hl hxs hfx hd h hs hf
  go_enter Try.func10, Try.ntmps10
  go_wp2_with fail
  go_quiet (fail)
  go_wp2_with fail
  have c3 : ((W.alloc (.cells #[.int .i64 1, .int .i64 N, .int .i64 K, .slice a n c] 31)).drewN nq).cell? ⟨W.heap.size, 3, none⟩ = some (.slice a n c) := by simp
  have c0 : ((W.alloc (.cells #[.int .i64 1, .int .i64 N, .int .i64 K, .slice a n c] 31)).drewN nq).cell? ⟨T, 0, none⟩ = some (.slice (headOf E) m.xs.length ct) := by
    rw [← h0]; exact World.cell?_alloc_lt _ _ _ hT
  have H1 := HA.out.drewN nq
  have hO : W.heap.size < ((W.alloc (.cells #[.int .i64 1, .int .i64 N, .int .i64 K, .slice a n c] 31)).drewN nq).heap.size := by simp
  generalize hW1 : (W.alloc (.cells #[.int .i64 1, .int .i64 N, .int .i64 K, .slice a n c] 31)).drewN nq = W1 at *
  have X1 := Lib.hid H1
  have SX0 := Lib.hid (show Src W1 (headOf E) m.xs.length m.xs by rw [← hW1]; exact HX.out.later (fun k hk => Below.heap_alloc _ _ _ hk))
  clear H1 hW1
  have cf : W1.frozen? ⟨T, 0, none⟩ = false := by
    obtain ⟨E9, c9, l9, hb9, _⟩ := X1.out.both.cells
    exact reel_free hb9 0
  have hW1s : w.heap.size ≤ W1.heap.size := X1.out.both.size
  have hT1 : T < W1.heap.size := Nat.lt_trans hT hO
  have OW := Lib.hid (show (W1.alloc (.cells #[] 5)).drew.ownsRow w.heap.size 5 1 (.slice (some ⟨W1.heap.size, 0, none⟩) 0 0) 0 [] from World.ownsRow_made (base := w.heap.size) (e := 5) (size := 1) W1 #[] 0 hW1s (Nat.zero_le _) (by simp))
  have SX := Lib.hid (show Src (W1.alloc (.cells #[] 5)).drew (headOf E) m.xs.length m.xs from SX0.out.later (fun k hk => Below.heap_alloc _ _ _ hk))
  have P1 := Lib.hid (fun w2 (hg : ((W1.alloc (.cells #[] 5)).drew).grownBy w2 (some W1.heap.size)) => show Below W1.heap.size W1 w2 from
    ⟨hg.os, hg.tape, hg.output, by have := hg.size; simp at this; omega, fun k hk => (hg.block k (by simp; omega) (by intro e; simp at e; omega)).trans (Below.heap_alloc _ _ _ hk)⟩)
  have P2 := Lib.hid (fun w2 w3 g1 (h1 : Below W1.heap.size W1 w2) (hg : w2.grownBy w3 (some g1)) (h2 : g1 = W1.heap.size ∨ g1 = W1.heap.size + 1) => show Below W1.heap.size W1 w3 from
    h1.trans ⟨hg.os, hg.tape, hg.output, hg.size, fun k hk => hg.block k (Nat.lt_of_lt_of_le hk h1.size) (by intro e; simp at e; omega)⟩)
  have P3 := Lib.hid (fun w2 (h1 : Below W1.heap.size W1 w2) => show w2.cell? ⟨T, 0, none⟩ = some (.slice (headOf E) m.xs.length ct) ∧ w2.cell? ⟨W.heap.size, 3, none⟩ = some (.slice a n c) ∧ w2.frozen? ⟨T, 0, none⟩ = false from
    ⟨(h1.cell (p := ⟨T, 0, none⟩) hT1).trans c0, (h1.cell (p := ⟨W.heap.size, 3, none⟩) hO).trans c3, (h1.frozen (p := ⟨T, 0, none⟩) hT1).trans cf⟩)
  have P4 := Lib.hid (fun w2 (h1 : Below W1.heap.size W1 w2) => show Src w2 a n ys from (X1.out.both.src HS.out).later (fun k hk => h1.block k hk))
  go_region_law (first
      | ((refine step_append_first (by rfl) (.tmp 19) (.tmp 23) (by rfl) w.heap.size W1.heap.size (by rfl) OW.out (headOf E) m.xs.length ct m.xs (by rfl) SX.out HFX.out.2.2 (by omega) (by simp; omega) ?_; intro g1 cap1 w2 hown1 hgrow1 hat1; have b1 := P1.out w2 hgrow1; have q1 := P3.out w2 b1))
      | ((refine step_append_src (by rfl) (.tmp 24) (.tmp 26) (by rfl) w.heap.size g1 m.xs.length cap1 m.xs (by rfl) hown1 a n c ys (by rfl) (P4.out w2 b1) HF.out.2.2 (by omega) (by have := b1.size; omega) ?_; intro g2 cap2 w3 hown2 hgrow2 hat2; have b2 := P2.out w2 w3 g1 b1 hgrow2 (by simpa using hat1); have q2 := P3.out w3 b2)))
  all_goals
    have hg2 : W1.heap.size ≤ g2 := by
      have h1 := b1.size
      have h2 : g1 = W1.heap.size ∨ g1 = W1.heap.size + 1 := by simpa using hat1
      rcases hat2 with e | e <;> omega
    have h4 := X1.out.bytes_set b2 g2 cap2 _ _ hg2 hown2 OK2.out
    have C := Lib.hid (goes_b h4 HD.out)
    clear hown1 hgrow1 hat1 hown2 hgrow2 hat2 hg2 q1 q2 b1 b2 h4
    go_wp2_with fail
    refine C.out.mono ?_
    rintro e W5 ⟨rfl, h5⟩
    have hp := h5.pin
    have p3 : W5.cell? ⟨W.heap.size, 3, none⟩ = some (.slice a n c) := by simp [World.cell?, hp]
    have C2 := append_b h5 (h5.both.src HS.out) HF.out
    by_cases c0 : m.left = 0
    · have t : decide (m.left ≠ 0) = false := by simp; exact c0
      rw [show m.append ys = (11, ({ m with xs := m.xs ++ ys } : M).spend.2) by
        rw [HAP.out]; unfold M.spend; rw [if_pos c0]] at C2
      have C2 := Lib.hid C2
      clear h5 hp c0
      go_wp2_with fail
      refine C2.out.mono ?_
      rintro e W6 ⟨rfl, h6⟩
      have H := Lib.hid (Stepped.of h6.both)
      clear h6
      go_wp2_with fail
      go_ret
      exact H.out
    · have t : decide (m.left ≠ 0) = true := by simp; exact c0
      rw [show m.append ys = (0, ({ m with xs := m.xs ++ ys } : M).spend.2) by
        rw [HAP.out]; unfold M.spend; rw [if_neg c0]; split <;> rfl] at C2
      have C2 := Lib.hid C2
      clear h5 hp c0
      go_wp2_with fail
      refine C2.out.mono ?_
      rintro e W6 ⟨rfl, h6⟩
      have H := Lib.hid (Stepped.of h6.both)
      clear h6
      go_wp2_with fail
      go_ret
      exact H.out
end Go.Proofs.Ytccfjpjhkaicgaa
