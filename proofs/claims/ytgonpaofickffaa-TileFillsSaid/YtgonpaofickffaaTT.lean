/- Fill. -/
import Derived.Test.YtgonpaofickffaaTR
import Derived.Test.YtgonpaofickffaaTS
import Derived.Deep.RegionWith
namespace Go.Proofs.Ytgonpaofickffaa
open Go.RowKit Go.Maps Go.Shelf
set_option linter.unusedVariables false

theorem spanOf_ex (first n side : Int) (h1 : -9223372036854775808 ≤ first) (h2 : first ≤ 9223372036854775807) (hs : 0 ≤ side) (w : World) :
    Calls Try.prog 34 #[.int .i64 first, .int .i64 n, .int .i64 side] w fun e w' => e = .returned (.agg #[.int .i64 (clip first n side).1, .int .i64 (clip first n side).2]) ∧ w' = w.alloc (.cells #[.int .i64 (clip first n side).1, .int .i64 (clip first n side).2] 79) := by
  obtain ⟨a, ha⟩ : ∃ a, a = max first 0 := ⟨_, rfl⟩
  obtain ⟨b, hb⟩ : ∃ b, b = max n 0 := ⟨_, rfl⟩
  obtain ⟨c, hc⟩ : ∃ c, c = min b (9223372036854775807 - a) := ⟨_, rfl⟩
  have m1 : (if first < 0 then (0 : Int) else first) = a := by omega
  have m2 : (if n < 0 then (0 : Int) else n) = b := by omega
  have m3 : (if 9223372036854775807 - a < b then 9223372036854775807 - a else b) = c := by omega
  have e1 : wrap64 (9223372036854775807 - a) = 9223372036854775807 - a := wrap64_nat' _ (by omega) (by omega)
  have e2 : wrap64 (first + c) = first + c := wrap64_nat' _ (by omega) (by omega)
  have C1 := Lib.hid (onSide_any first side)
  have C2 := Lib.hid (onSide_any (first + c) side)
  unfold clip
  rw [← ha, ← hb, ← hc]
  clear ha hb hc
  go_enter Try.func34, Try.ntmps34
  go_wp2_with fail
  refine (C1.out _).mono ?_
  rintro e w' ⟨rfl, rfl⟩
  go_wp2_with fail
  refine (C2.out _).mono ?_
  rintro e w' ⟨rfl, rfl⟩
  go_wp2_with fail
  refine bodyPost_ret (results_cell_row rfl _ _ w.heap.size 79 #[.int .i64 (min (max first 0) side), .int .i64 (min (max (first + c) 0) side)] (0, 0) _ rfl (heap_alloc_new _ _) Try.underlying79 rfl (by kernel_rfl)) rfl ?_
  exact ⟨by rw [show max first 0 = a by omega], by rw [show max first 0 = a by omega]⟩
theorem clip_nat (first n : Int) (side : Nat) : ∃ f t : Nat, clip first n (side : Int) = ((f : Int), (t : Int)) ∧ f ≤ side ∧ t ≤ side := by
  refine ⟨(clip first n side).1.toNat, (clip first n side).2.toNat, ?_, ?_, ?_⟩ <;> unfold clip
  · refine Prod.ext ?_ ?_ <;> simp only <;> omega
  · simp only; omega
  · simp only; omega
theorem fill_no (w : World) (a : Value) (x y n m v : Int) (hv : ¬ (0 ≤ v ∧ v ≤ 4294967295)) : Calls Try.prog 17 #[a, .int .i64 x, .int .i64 y, .int .i64 n, .int .i64 m, .int .i64 v] w fun e w' => e = .returned (.int .i64 32) ∧ w' = w := by
  have CV := isPixel_any v w
  rw [show (decide (0 ≤ v) && decide (v ≤ 4294967295)) = false by simp; omega] at CV
  have CV := Lib.hid CV
  clear hv
  go_enter Try.func17, Try.ntmps17
  go_wp2_with (first | (go_at_call 31; refine CV.out.mono ?_; rintro e w' ⟨rfl, rfl⟩))
  go_ret
  exact ⟨rfl, rfl⟩
theorem flatP_at : ∀ (ds : List Plc) (r : Nat) (q : Plc), ds[r]? = some q → (flatP ds)[r * 2]? = some (.int .i64 (q.1.1 : Int)) ∧ (flatP ds)[r * 2 + 1]? = some (.int .i64 (q.1.2 : Int))
  | [], r, q, h => by cases h
  | a :: l, 0, q, h => by cases h; exact ⟨rfl, rfl⟩
  | a :: l, r + 1, q, h => by
    have := flatP_at l r q h
    rw [show (r + 1) * 2 = r * 2 + 2 by omega, show r * 2 + 2 + 1 = (r * 2 + 1) + 2 by omega]
    exact this
set_option maxRecDepth 100000 in
set_option maxHeartbeats 8000000 in
theorem fill_goes (w : World) (S : St) (h : Rep w S) (k : Nat) (p : Pl) (hk : S.ps[k]? = some p) (x y n m : Int) (v : Nat) (hv : v ≤ 4294967295) (hx1 : -9223372036854775808 ≤ x) (hx2 : x ≤ 9223372036854775807) (hy1 : -9223372036854775808 ≤ y) (hy2 : y ≤ 9223372036854775807)
    (xf xt yf yt : Nat) (hX : clip x n (p.W : Int) = ((xf : Int), (xt : Int))) (hY : clip y m (p.H : Int) = ((yf : Int), (yt : Int))) (h1 : xf ≤ p.W) (h2 : xt ≤ p.W) (h3 : yf ≤ p.H) (h4 : yt ≤ p.H)
    (CH : ∀ w', Rep w' S → Calls Try.prog 35 #[.pointer (some ⟨p.pb, 0, none⟩), .agg #[.int .i64 (xf : Int), .int .i64 (xt : Int), .int .i64 (yf : Int), .int .i64 (yt : Int)], .int .u32 (v : Int)] w' (Told w' S p xf xt yf yt v)) :
    Calls Try.prog 17 #[.pointer (some ⟨p.pb, 0, none⟩), .int .i64 x, .int .i64 y, .int .i64 n, .int .i64 m, .int .i64 (v : Int)] w fun e w' =>
      (e = .returned (.int .i64 30) ∧ Keeps none' w w' ∧ ∃ l : List Plc, l.Nodup ∧ (∀ q ∈ l, Chg S p xf xt yf yt v q.1.1 q.1.2 ∧ ¬ aloneP S p q.1.1 q.1.2) ∧ S.free < l.length) ∨
      (e = .returned (.int .i64 0) ∧ ∃ w0 ds, Keeps none' w w0 ∧ ds.Nodup ∧ (∀ i j, (∃ h, (⟨(i, j), h⟩ : Plc) ∈ ds) ↔ Chg S p xf xt yf yt v i j) ∧ needs S p ds ≤ S.free ∧ FillAt w0 S k p ds xf xt yf yt v w') := by
  have CV := isPixel_any (v : Int) w
  rw [decide_eq_true (by omega), decide_eq_true (by omega)] at CV
  have CV := Lib.hid CV
  have C1 := Lib.hid (fun w => spanOf_ex x n (p.W : Int) hx1 hx2 (by omega) w)
  have C2 := Lib.hid (fun w => spanOf_ex y m (p.H : Int) hy1 hy2 (by omega) w)
  rw [hX] at C1
  rw [hY] at C2
  simp only at C1 C2
  have hpa := h.cells hk
  obtain ⟨-, hx, hy, -⟩ := hpa
  have hlt : p.pb < w.heap.size := (h.plane k p hk).1.lt
  have hl1 : p.pb < w.heap.size + 1 := by omega
  have hl2 : p.pb < w.heap.size + 1 + 1 := by omega
  have H := Lib.hid h
  have HK := Lib.hid hk
  have CC := Lib.hid CH
  have WH := Lib.hid (h.plane k p hk).2.2
  have LE := Lib.hid (And.intro h1 (And.intro h2 (And.intro h3 h4)))
  have HV := Lib.hid hv
  clear h hk hX hY hx1 hx2 hy1 hy2 hv CH h1 h2 h3 h4
  go_enter Try.func17, Try.ntmps17
  go_wp2_with (first | (go_at_call 31; refine CV.out.mono ?_; rintro e w' ⟨rfl, rfl⟩))
  rename_i K hK
  have REST : ∀ (B : Nat) (w1 : World), w1.heap[B]? = some (.cells #[.int .i64 (xf : Int), .int .i64 (xt : Int), .int .i64 (yf : Int), .int .i64 (yt : Int)] 82 (0, 0)) → Keeps none' w' w1 →
      K { tmps := #[.pointer (some ⟨p.pb, 0, none⟩), .int .i64 x, .int .i64 y, .int .i64 n, .int .i64 m, .int .i64 (v : Int), undef, undef, undef, undef, undef, undef, .int .i64 0, .pointer (some ⟨B, 0, none⟩), undef, undef, undef, undef, .int .i64 (v : Int), .bool true, .bool false, .int .i64 x, .int .i64 n, .pointer (some ⟨p.pb, 0, none⟩), .pointer (some ⟨p.pb, 0, none⟩), .pointer (some ⟨p.pb, 1, none⟩), .int .i64 (p.W : Int), .agg #[.int .i64 (xf : Int), .int .i64 (xt : Int)], .int .i64 y, .int .i64 m, .pointer (some ⟨p.pb, 0, none⟩), .pointer (some ⟨p.pb, 0, none⟩), .pointer (some ⟨p.pb, 2, none⟩), .int .i64 (p.H : Int), .agg #[.int .i64 (yf : Int), .int .i64 (yt : Int)], .agg #[.int .i64 (xf : Int), .int .i64 (xt : Int), .int .i64 (yf : Int), .int .i64 (yt : Int)], undef, undef, undef, undef, undef, undef, undef, undef, undef, undef, undef, undef, undef, undef, undef, undef, undef, undef, undef, undef, undef, undef, undef, undef, undef, undef, undef], defers := [] } w1 := by
    intro B w1 hB hk1
    refine hK _ _ ?_
    clear hx hy hlt hl1 hl2 CV
    have a0 : w1.cell? ⟨B, 0, none⟩ = some (.int .i64 (xf : Int)) := by simp [World.cell?, hB]
    have a1 : w1.cell? ⟨B, 1, none⟩ = some (.int .i64 (xt : Int)) := by simp [World.cell?, hB]
    have a2 : w1.cell? ⟨B, 2, none⟩ = some (.int .i64 (yf : Int)) := by simp [World.cell?, hB]
    have a3 : w1.cell? ⟨B, 3, none⟩ = some (.int .i64 (yt : Int)) := by simp [World.cell?, hB]
    have u0 : IntKind.u32.wrap (v : Int) = (v : Int) := wrap_u32 v HV.out
    have C3 := Lib.hid (CC.out w1 (H.out.later hk1))
    have HB := Lib.hid hB
    have K1 := Lib.hid hk1
    clear hB hk1
    go_wp2_with (first | (go_at_call 35; refine C3.out.mono ?_; rintro e w2 ⟨hk2, ⟨s, ds, rfl, hnd, hiff, hneed, hlen, ⟨rfl, h0⟩ | ⟨g, cap, cur, rfl, hg, hb, hle, hcap, hsz, htk⟩⟩ | ⟨rfl, hno⟩⟩))
    · have F := Lib.hid (And.intro (K1.out.trans hk2 (fun _ _ h => h)) (And.intro hnd (And.intro hiff (And.intro hneed (H.out.later (K1.out.trans hk2 (fun _ _ h => h)))))))
      have DS := Lib.hid (List.length_eq_zero_iff.1 h0)
      clear hnd hiff hneed hlen h0 hk2
      go_wp2_with fail
      go_loopw [49] (fun cnt wr => cnt = .int .i64 0 ∧ wr = w2) (fun _ _ => 0)
      case atStart => exact ⟨rfl, rfl⟩
      case round =>
        obtain ⟨rfl, rfl⟩ := hrel
        go_wp2_with fail
        go_ret
        have e := DS.out
        subst e
        exact Or.inr ⟨rfl, _, [], F.out.1, F.out.2.1, F.out.2.2.1, F.out.2.2.2.1, S, p, Wrote.start HK.out _ _ _ _ _ _, F.out.2.2.2.2, Keeps.refl _ _⟩
    · have R1 := Lib.hid (H.out.later K1.out)
      have R2 := Lib.hid (R1.out.later hk2)
      have F := Lib.hid (And.intro (K1.out.trans hk2 (fun _ _ h => h)) (And.intro hnd (And.intro hiff hneed)))
      have BLK : ∀ wr, Keeps (Foot S) w2 wr → wr.heap[g]? = some (.cells cur 70 (0, 0)) ∧ wr.heap[B]? = some (.cells #[.int .i64 (xf : Int), .int .i64 (xt : Int), .int .i64 (yf : Int), .int .i64 (yt : Int)] 82 (0, 0)) := by
        intro wr hkr
        have e2 : w2.heap[B]? = some (.cells #[.int .i64 (xf : Int), .int .i64 (xt : Int), .int .i64 (yf : Int), .int .i64 (yt : Int)] 82 (0, 0)) := (hk2.later _ (lt_of_block HB.out)).trans HB.out
        exact ⟨(hkr.block g (lt_of_block hb) (fun hf => by have := R1.out.lt hf; omega)).trans hb, (hkr.block B (lt_of_block e2) (R2.out.not_foot e2 (Or.inr rfl))).trans e2⟩
      have ELT : ∀ r q, ds[r]? = some q → ∀ wr : World, wr.heap[g]? = some (.cells cur 70 (0, 0)) → wr.cell? ⟨g, r * 2, none⟩ = some (.int .i64 (q.1.1 : Int)) ∧ wr.cell? ⟨g, r * 2 + 1, none⟩ = some (.int .i64 (q.1.2 : Int)) := by
        intro r q hr wr hgr
        obtain ⟨f1, f2⟩ := flatP_at ds r q hr
        rw [← htk, List.getElem?_take] at f1 f2
        split at f1
        · split at f2
          · constructor <;> simp [World.cell?, hgr, ← Array.getElem?_toList] <;> assumption
          · cases f2
        · cases f1
      have BLK := Lib.hid BLK
      have ELT := Lib.hid ELT
      have LEN : ds.length ≤ maxLen := Nat.le_trans hle hcap
      unfold maxLen at LEN
      have CAP := Lib.hid (And.intro hle (And.intro hcap hsz))
      clear hnd hiff hneed hlen hk2 hg hb htk hsz
      go_wp2_with fail
      go_loopw [49] (fun cnt wr => ∃ r : Nat, r ≤ ds.length ∧ cnt = .int .i64 r ∧ FillAt w2 S k p (ds.take r) xf xt yf yt v wr) (fun cnt _ => ds.length - (intOf cnt).toNat)
      case atStart => exact ⟨0, Nat.zero_le _, rfl, S, p, Wrote.start HK.out _ _ _ _ _ _, R2.out, Keeps.refl _ _⟩
      case round =>
        clear a0 a1 a2 a3
        obtain ⟨r, hr, rfl, hF⟩ := hrel
        obtain ⟨hgb, hBb⟩ := BLK.out wr hF.choose_spec.choose_spec.2.2
        by_cases hlt : r < ds.length
        · obtain ⟨⟨⟨i, j⟩, hij⟩, hq⟩ : ∃ q, ds[r]? = some q := ⟨_, List.getElem?_eq_getElem hlt⟩
          obtain ⟨q0, q1⟩ := ELT.out r _ hq wr hgb
          simp only at q0 q1
          have FF := Lib.hid hF
          have GB := Lib.hid (And.intro hgb hBb)
          have HQ := Lib.hid hq
          clear hF hgb hBb hq
          go_wp2_with fail
          obtain ⟨wq, hwq⟩ : ∃ wq, wq = wr.alloc (.cells #[.int .i64 (i : Int), .int .i64 (j : Int)] 70) := ⟨_, rfl⟩
          obtain ⟨T, hT⟩ : ∃ T, T = wr.heap.size := ⟨_, rfl⟩
          have FQ := Lib.hid (show FillAt w2 S k p (ds.take r) xf xt yf yt v wq by rw [hwq]; exact FF.out.later ((Keeps.refl none' wr).alloc _))
          have BQ := Lib.hid (show wq.heap[T]? = some (.cells #[.int .i64 (i : Int), .int .i64 (j : Int)] 70 (0, 0)) ∧ wq.heap[B]? = some (.cells #[.int .i64 (xf : Int), .int .i64 (xt : Int), .int .i64 (yf : Int), .int .i64 (yt : Int)] 82 (0, 0)) by
            rw [hwq, hT]
            exact ⟨heap_alloc_new _ _, (Below.heap_alloc _ _ _ (lt_of_block GB.out.2)).trans GB.out.2⟩)
          rw [← hwq, ← hT]
          clear hwq hT
          have CEL : ∀ w' : World, w'.heap[T]? = some (.cells #[.int .i64 (i : Int), .int .i64 (j : Int)] 70 (0, 0)) ∧ w'.heap[B]? = some (.cells #[.int .i64 (xf : Int), .int .i64 (xt : Int), .int .i64 (yf : Int), .int .i64 (yt : Int)] 82 (0, 0)) → (w'.cell? ⟨T, 0, none⟩ = some (.int .i64 (i : Int)) ∧ w'.cell? ⟨T, 1, none⟩ = some (.int .i64 (j : Int))) ∧ w'.cell? ⟨B, 0, none⟩ = some (.int .i64 (xf : Int)) ∧ w'.cell? ⟨B, 1, none⟩ = some (.int .i64 (xt : Int)) ∧ w'.cell? ⟨B, 2, none⟩ = some (.int .i64 (yf : Int)) ∧ w'.cell? ⟨B, 3, none⟩ = some (.int .i64 (yt : Int)) := by
            rintro w' ⟨g1, g2⟩
            simp [World.cell?, g1, g2]
          have CEL := Lib.hid CEL
          have ED : ds.take r ++ (⟨(i, j), hij⟩ : Plc) :: ds.drop (r + 1) = ds := by
            obtain ⟨hl, he⟩ := List.getElem?_eq_some_iff.1 HQ.out
            conv => rhs; rw [← List.take_append_drop r ds, List.drop_eq_getElem_cons hl, he]
          have ET : ds.take (r + 1) = ds.take r ++ [(⟨(i, j), hij⟩ : Plc)] := by rw [List.take_add_one, HQ.out]; rfl
          have IJ : i * 16 < p.W ∧ j * 16 < p.H ∧ i < 2048 ∧ j < 2048 := by
            obtain ⟨c1, c2, x', y', hA, -⟩ := (F.out.2.2.1 i j).1 ⟨hij, List.mem_of_getElem? HQ.out⟩
            have := LE.out
            unfold InArea at hA
            omega
          have OWN := Lib.hid (fun w' (hf : FillAt w2 S k p (ds.take r) xf xt yf yt v w') => hf.own (rest := ds.drop (r + 1)) (hij := hij) HK.out R2.out (by rw [ED]; exact F.out.2.1) (by rw [ED]; exact F.out.2.2.2) IJ.1 IJ.2.1 HV.out)
          have C4 := areaWithin_any xf xt yf yt i j (by have := LE.out; have := WH.out; omega) (by have := LE.out; have := WH.out; omega) (by have := LE.out; have := WH.out; omega) (by have := LE.out; have := WH.out; omega) (by omega) (by omega)
          simp only [inTile] at C4
          have C4 := Lib.hid C4
          have C5 := Lib.hid (fun w6 t' f (hT : TileAt w6 t' 1 f) => fill_any w6 t' 1 f hT (xf - i * 16) (yf - j * 16) (min ((xt : Int) - (i : Int) * 16) 16) (min ((yt : Int) - (j : Int) * 16) 16) (by omega) (by omega) (by have := LE.out; have := WH.out; omega) (by have := LE.out; have := WH.out; omega) v)
          have EE := Lib.hid ET
          obtain ⟨⟨b0, b1⟩, a0, a1, a2, a3⟩ := CEL.out wq BQ.out
          clear ED ET IJ q0 q1 FF GB
          go_region_with (first
            | (go_at_call 33; refine (OWN.out _ (by first | exact FQ.out | exact FQ.out.later (Keeps.refl none' _).drew)).mono ?_; rintro e w5 ⟨t', f, rfl, hG5, hs5, hF5⟩; obtain ⟨⟨b0, b1⟩, a0, a1, a2, a3⟩ := CEL.out w5 ⟨((hG5 T _ 70 _ (Or.inl rfl) BQ.out.1).2).trans BQ.out.1, ((hG5 B _ 82 _ (Or.inr rfl) BQ.out.2).2).trans BQ.out.2⟩)
            | (go_at_call 37; refine (C4.out _).mono ?_; rintro e w6 ⟨rfl, hk6⟩)
            | (go_at_call 36; refine (C5.out _ _ _ (hF5 _ hk6).1).mono ?_; rintro e w7 ⟨rfl, hT7, hk7⟩))
          all_goals
            have FN := Lib.hid ((hF5 _ hk6).2 _ hT7 hk7)
            rw [← EE.out] at FN
            clear hF5 hk6 hT7 hk7 hG5 hs5
            go_wp2_with fail
            go_roundw
            case rel => exact ⟨r + 1, by omega, by go_num, FN.out⟩
            case measure => simp [intOf] <;> omega
        · have u0 : decide ((r : Int) < (ds.length : Int)) = false := decide_eq_false (by omega)
          have FF := Lib.hid hF
          clear hF hgb hBb
          go_wp2_with fail
          go_ret
          refine Or.inr ⟨rfl, w2, ds, F.out.1, F.out.2.1, F.out.2.2.1, F.out.2.2.2, ?_⟩
          have := FF.out
          rwa [List.take_of_length_le (by omega)] at this
    · go_wp2_with fail
      go_ret
      exact Or.inl ⟨rfl, K1.out.trans hk2 (fun _ _ h => h), hno⟩
  have REST := Lib.hid REST
  clear hK
  go_region_with (first | (go_at_call_of 34 (n); refine (C1.out _).mono ?_; rintro e w' ⟨rfl, rfl⟩) | (go_at_call_of 34 (m); refine (C2.out _).mono ?_; rintro e w' ⟨rfl, rfl⟩))
  all_goals exact REST.out _ _ (by repeat (first | (refine heap_at ?_; simp; done) | (refine heap_past ?_ ?_; · first | (simp; done) | (simp; omega)) | (show (World.heap (World.drew _))[_]? = _; refine heap_drew ?_))) (by repeat (first | exact Keeps.refl _ _ | exact (Keeps.refl _ _).drew | apply Keeps.alloc | apply Keeps.drew))
/-- Fill of a rectangle. -/
theorem fill_any17 (w : World) (S : St) (h : Rep w S) (k : Nat) (p : Pl) (hk : S.ps[k]? = some p) (x y n m : Int) (v : Nat) (hv : v ≤ 4294967295) (hx1 : -9223372036854775808 ≤ x) (hx2 : x ≤ 9223372036854775807) (hy1 : -9223372036854775808 ≤ y) (hy2 : y ≤ 9223372036854775807) :
    ∃ xf xt yf yt : Nat, clip x n (p.W : Int) = ((xf : Int), (xt : Int)) ∧ clip y m (p.H : Int) = ((yf : Int), (yt : Int)) ∧
    Calls Try.prog 17 #[.pointer (some ⟨p.pb, 0, none⟩), .int .i64 x, .int .i64 y, .int .i64 n, .int .i64 m, .int .i64 (v : Int)] w fun e w' =>
      (e = .returned (.int .i64 30) ∧ Keeps none' w w' ∧ ∃ l : List Plc, l.Nodup ∧ (∀ q ∈ l, Chg S p xf xt yf yt v q.1.1 q.1.2 ∧ ¬ aloneP S p q.1.1 q.1.2) ∧ S.free < l.length) ∨
      (e = .returned (.int .i64 0) ∧ ∃ w0 ds, Keeps none' w w0 ∧ ds.Nodup ∧ (∀ i j, (∃ h, (⟨(i, j), h⟩ : Plc) ∈ ds) ↔ Chg S p xf xt yf yt v i j) ∧ needs S p ds ≤ S.free ∧ FillAt w0 S k p ds xf xt yf yt v w') := by
  obtain ⟨xf, xt, hX, h1, h2⟩ := clip_nat x n p.W
  obtain ⟨yf, yt, hY, h3, h4⟩ := clip_nat y m p.H
  have hW := (h.plane k p hk).2.2
  exact ⟨xf, xt, yf, yt, hX, hY, fill_goes w S h k p hk x y n m v hv hx1 hx2 hy1 hy2 xf xt yf yt hX hY h1 h2 h3 h4 (fun w' hr => changing_does w' S hr k p hk xf xt yf yt v (by omega) (by omega) (by omega) (by omega))⟩
end Go.Proofs.Ytgonpaofickffaa
