/- Texts of a layer, one behind the other. -/
import Derived.Test.YtpmoknnhgginjaaDoorGSg
import Derived.Test.YtpmoknnhgginjaaDoorGSe
import Derived.Shelf.Abstract
import Derived.WalkMore
import Derived.ScopeJumps
import Derived.BigRegion
import Derived.Deep.Cut
import Derived.Test.YtpmoknnhgginjaaDoorGSb
/- A decoder that is kept; the program's symbol. -/
namespace Go.Proofs.YtpmoknnhgginjaaDoor.Pr
open Go.RowKit Lzz Ref
set_option linter.unusedVariables false
variable {w0 w w2 : World} {P R D : Nat} {ys : List Nat} {most : Int} {K : Nat → Prop} {f1 f2 : Value} {s : St}

/-- A decoder of lengths, in memory that is kept. -/
def DecIn (K : Nat → Prop) (w : World) (v : Value) (zs : List Int) : Prop :=
  ∃ (G : Nat) (l c : Nat → Nat) (B : Nat) (dv : Value) (ps : List (Nat × Nat)) (cs : List Int), v = .pointer (some ⟨G, 0, none⟩) ∧ Hu.TF zs (Hu.codesZ zs) l c ∧ Hu.Dec w B G dv ps.length cs ∧ Hu.Trie.Tree l c zs.length ps (Hu.wayOf cs) ∧ ps.length ≤ 1 + 16 * zs.length ∧ (∀ z ∈ cs, -301 ≤ z ∧ z ≤ 16777216) ∧ zs.length ≤ 300 ∧ K G ∧ ∀ g, dv.ownBlock = some g → K g
theorem DecIn.keep {v : Value} {zs : List Int} (h : DecIn K w v zs) (hk : Kept K w w2) : DecIn K w2 v zs := by
  obtain ⟨G, l, c, B, dv, ps, cs, h1, h2, h3, h4, h5, h6, h7, h8, h9⟩ := h
  exact ⟨G, l, c, B, dv, ps, cs, h1, h2, ⟨h3.at_, (hk G h8).trans h3.blk, Hu.own_kept2 h3.own (fun g e => hk g (h9 g e)), h3.apart⟩, h4, h5, h6, h7, h8, h9⟩
theorem DecIn.weaker {K' : Nat → Prop} {v : Value} {zs : List Int} (h : DecIn K w v zs) (hk : ∀ k, K k → K' k) : DecIn K' w v zs := by
  obtain ⟨G, l, c, B, dv, ps, cs, h1, h2, h3, h4, h5, h6, h7, h8, h9⟩ := h
  exact ⟨G, l, c, B, dv, ps, cs, h1, h2, h3, h4, h5, h6, h7, hk _ h8, fun g e => hk _ (h9 g e)⟩
/-- A code by its lengths. -/
def cdOf (zs : List Int) : Cd := ⟨zs, Hu.codesZ zs, Hu.weightZ zs, true⟩
/-- A symbol as the program reads it. -/
def psym (ys : List Nat) (cd : Cd) (s : St) : Int × St := if s.e ≠ 0 then (-1, s) else if (sym ys cd s).2.e ≠ 0 then (-1, (sym ys cd s).2) else sym ys cd s
theorem psym_of (ys : List Nat) (cd : Cd) (s : St) (h : s.e = 0) : psym ys cd s = if (sym ys cd s).2.e ≠ 0 then (-1, (sym ys cd s).2) else sym ys cd s := by
  unfold psym; rw [if_neg (by simp [h])]
/-- How many bits are left to read. -/
def leftR (R L : Nat) (w : World) : Nat := match w.cell? ⟨R, 2, none⟩ with
  | some (.int _ i) => 8 * L + 1 - i.toNat
  | _ => 0
theorem Pm.leftR (h : Pm w0 P R D ys most K f1 f2 s w) : leftR R ys.length w = 8 * ys.length + 1 - s.at_ := by
  have := (Bi.reader_cells h.rd.block).2.2
  simp [Pr.leftR, this]
/-- What a symbol's loop lowers. -/
def symLeft (R L : Nat) (mv : Value) (w : World) : Nat := match mv with
  | .int _ (.negSucc _) => leftR R L w
  | _ => 0
theorem bit_and (b : Nat) (h : b < 2) : bits .and .i64 (b : Int) 1 = (b : Int) := by
  obtain rfl | rfl : b = 0 ∨ b = 1 := by omega
  · decide
  · decide

set_option maxRecDepth 100000 in
set_option maxHeartbeats 3200000 in
theorem symbol_any (h : Pm w0 P R D ys most K f1 f2 s w) (v : Value) (zs : List Int) (hd : DecIn K w v zs) :
    Calls Tryd.prog 44 #[.pointer (some ⟨P, 0, none⟩), v] w (Ends w0 P R D ys most K f1 f2 (psym ys (cdOf zs) s).2 w (.int .i64 (psym ys (cdOf zs) s).1)) := by
  obtain ⟨G, l, c, B, dv, ps, cs, rfl, hTF, hdec, htree, hpsl, hcs, hz300, hKG, hKg⟩ := hd
  by_cases h0 : s.e = 0
  · rw [psym_of _ _ _ h0]
    have HD := Lib.hid (And.intro hdec (And.intro hKG hKg))
    have HT := Lib.hid (And.intro hTF htree)
    have HC := Lib.hid hcs
    have HP := Lib.hid h
    have HE := Lib.hid h0
    have hroot := htree.root
    have hpos : 0 < ps.length := (List.getElem?_eq_some_iff.1 hroot).1
    have HPO := Lib.hid (And.intro hpos (show ps.length ≤ 16777216 by omega))
    have HRT := Lib.hid hroot
    have HSY := Lib.hid (show sym ys (cdOf zs) s = symFrom ys (cdOf zs) 17 1 0 s from rfl)
    have HZ := Lib.hid hz300
    generalize sym ys (cdOf zs) s = res at *
    obtain ⟨fin, hfin⟩ : ∃ fin, fin = (if res.2.e ≠ 0 then ((-1 : Int), res.2) else res) := ⟨_, rfl⟩
    rw [← hfin]
    have HF := Lib.hid hfin
    clear hfin
    clear h hdec hKG hKg hTF htree hcs h0 hroot hpos hpsl hz300
    go_enter Tryd.func44, Tryd.ntmps44
    go_wp2_with fail
    go_loopw [5, 6] (fun sv mv wl => (∃ (m u f st : Nat) (s' : St), m + f = 18 ∧ 1 ≤ m ∧ sv = .int .i64 st ∧ mv = .int .i64 (-1) ∧ ps[st]? = some (m - 1, u) ∧ s'.e = 0 ∧ Pm w0 P R D ys most K f1 f2 s' wl ∧ Kept K w wl ∧ res = symFrom ys (cdOf zs) f m u s') ∨ (∃ (sy : Nat) (s' : St), sv = .int .i64 0 ∧ mv = .int .i64 sy ∧ s'.e = 0 ∧ Pm w0 P R D ys most K f1 f2 s' wl ∧ Kept K w wl ∧ res = ((sy : Int), s'))) (fun _ mv wl => symLeft R ys.length mv wl)
    case atStart => exact Or.inl ⟨1, 0, 17, 0, s, rfl, by omega, rfl, rfl, HRT.out, HE.out, HP.out, Kept.refl _ _, HSY.out⟩
    case round =>
      rcases hrel with ⟨m, u, f, st, s', hmf, hm1, rfl, rfl, hps, he0, hm, hk, hres⟩ | ⟨sy, s', rfl, rfl, he0, hm, hk, hres⟩
      · have hm16 : m ≤ 16 := by
          by_cases hst : st = 0
          · subst hst
            have := HRT.out
            rw [hps] at this
            simp only [Option.some.injEq, Prod.mk.injEq] at this
            omega
          · obtain ⟨s5, j5, k1, k2, k3, k4⟩ := HT.out.2.of_ st _ hps (by omega)
            simp only [Hu.Trie.pre, Prod.mk.injEq] at k4
            by_cases hs5 : s5 < zs.length
            · have := (HT.out.1.at' s5 hs5).2.1
              omega
            · have := HT.out.1.out s5 (by omega)
              omega
        obtain ⟨f', rfl⟩ : ∃ f', f = f' + 1 := ⟨f - 1, by omega⟩
        rw [symFrom] at hres
        have hb2 := get_one ys s'
        have hlf := hm.leftR
        have CG := Lib.hid (number_any hm 1 (by omega))
        have eN : num ys 1 s' = Ref.get ys 1 s' := by unfold num; rw [if_neg (by simp [he0])]
        rw [eN] at CG
        have hat := Ref.get_at ys 1 s'
        have hfar := hm.far
        have HRES := Lib.hid hres
        have HK := Lib.hid hk
        have HAT := Lib.hid (And.intro hat (And.intro hlf hfar))
        have HPS := Lib.hid (And.intro hps (And.intro hm1 hmf))
        generalize Ref.get ys 1 s' = gs at *
        obtain ⟨b, s1⟩ := gs
        try simp only at hb2
        have HB2 := Lib.hid hb2
        clear hres hk hm hm16 eN hat hlf hfar hps he0 hmf hm1 hb2
        go_wp2_with fail
        refine CG.out.mono ?_
        rintro e3 w3 ⟨rfl, hm3, hk3⟩
        try simp only at hm3
        obtain ⟨c0, c2, c3, c4, c5, cf⟩ := hm3.cells
        have hlf3 := hm3.leftR
        have HM3 := Lib.hid (And.intro hm3 (And.intro (Kept.trans HK.out hk3) hlf3))
        clear hm3 hk3 CG hlf3
        by_cases he : s1.e = 0
        · rw [he] at c3
          have hres := HRES.out
          simp only [he, ne_eq, not_true_eq_false, if_false] at hres
          have hd3 := HD.out.1
          have hkk := HM3.out.2.1
          have hdec3 : Hu.Dec w3 B G dv ps.length cs := ⟨hd3.at_, (hkk G HD.out.2.1).trans hd3.blk, Hu.own_kept2 hd3.own (fun g e => hkk g (HD.out.2.2 g e)), hd3.apart⟩
          have CS := Lib.hid (Hu.step_any w3 B G ps.length dv cs hdec3 HPO.out.1 HPO.out.2 (fun z hz => ⟨by have := (HC.out z hz).1; omega, (HC.out z hz).2⟩) (st : Int) (b : Int) b HB2.out (bit_and b HB2.out))
          obtain ⟨q1, q2, q3⟩ := Hu.step_is HT.out.1 HT.out.2 HPS.out.1 HB2.out
          have hmm : m - 1 + 1 = m := by have := HPS.out.2.1; omega
          rw [hmm] at q1 q2 q3
          have hm19 : s1.at_ = s'.at_ + 1 := HAT.out.1 he
          cases hfd : Hu.findS zs (Hu.codesZ zs) (m : Int) ((2 * u + b : Nat) : Int) zs.length with
          | some sy =>
            have q := q1 sy hfd
            have hst2 : Hu.foundZ (Hu.findS (cdOf zs).L (cdOf zs).C m ((2 * u + b : Nat) : Int) (cdOf zs).L.length) = (sy : Int) := by
              show Hu.foundZ (Hu.findS zs (Hu.codesZ zs) (m : Int) ((2 * u + b : Nat) : Int) zs.length) = _
              rw [hfd]; rfl
            rw [hst2, if_pos (by omega)] at hres
            rw [q] at CS
            have X := Lib.hid (show s1.e = 0 ∧ Pm w0 P R D ys most K f1 f2 s1 w3 ∧ Kept K w w3 ∧ res = ((sy : Int), s1) from ⟨he, HM3.out.1, HM3.out.2.1, hres⟩)
            clear hres q q1 q2 q3 hst2 hfd hdec3 hkk hd3 he hm19 hmm
            go_wp2_with fail
            refine CS.out.mono ?_
            rintro e4 w4 ⟨rfl, hw4⟩
            obtain rfl := hw4.symm
            go_wp2_with fail
            go_roundw
            case rel => exact Or.inr ⟨sy, s1, rfl, rfl, X.out⟩
            case measure =>
              have h1 := HAT.out.2.1
              have h2 := HAT.out.2.2
              show 0 < leftR R ys.length wr
              omega
          | none =>
            have hst2 : Hu.foundZ (Hu.findS (cdOf zs).L (cdOf zs).C m ((2 * u + b : Nat) : Int) (cdOf zs).L.length) = -1 := by
              show Hu.foundZ (Hu.findS zs (Hu.codesZ zs) (m : Int) ((2 * u + b : Nat) : Int) zs.length) = _
              rw [hfd]; rfl
            rw [hst2, if_neg (by omega)] at hres
            cases hbg : Hu.beginsS zs (Hu.codesZ zs) (m : Int) ((2 * u + b : Nat) : Int) zs.length
            · rw [if_pos (show Hu.beginsS (cdOf zs).L (cdOf zs).C m ((2 * u + b : Nat) : Int) (cdOf zs).L.length = false from hbg)] at hres
              rw [q3 hfd hbg] at CS
              have CF := Lib.hid (fail_any HM3.out.1 21 (by omega))
              have HR := Lib.hid hres
              have HFE := Lib.hid (fail_e s1 21 (by omega))
              clear hres q1 q2 q3 hst2 hfd hdec3 hkk hd3 he hm19 hmm hbg
              go_wp2_with fail
              refine CS.out.mono ?_
              rintro e4 w4 ⟨rfl, hw4⟩
              obtain rfl := hw4.symm
              go_wp2_with fail
              refine CF.out.mono ?_
              rintro e9 w9 ⟨rfl, hm9, hk9⟩
              have X := Lib.hid (show Ends w0 P R D ys most K f1 f2 fin.2 w (.int .i64 fin.1) (.returned (.int .i64 (-1))) w9 from by
                rw [HF.out, HR.out, if_pos HFE.out]
                exact ⟨rfl, hm9, Kept.trans HM3.out.2.1 hk9⟩)
              clear hm9 hk9
              go_wp2_with fail
              go_ret
              exact X.out
            · rw [if_neg (show ¬ Hu.beginsS (cdOf zs).L (cdOf zs).C m ((2 * u + b : Nat) : Int) (cdOf zs).L.length = false from by
                show ¬ Hu.beginsS zs (Hu.codesZ zs) (m : Int) ((2 * u + b : Nat) : Int) zs.length = false
                rw [hbg]; simp)] at hres
              obtain ⟨t, q, ht0, hpt⟩ := q2 hfd hbg
              rw [q] at CS
              have X := Lib.hid (show ps[t]? = some (m + 1 - 1, 2 * u + b) ∧ s1.e = 0 ∧ Pm w0 P R D ys most K f1 f2 s1 w3 ∧ Kept K w w3 ∧ res = symFrom ys (cdOf zs) f' (m + 1) (2 * u + b) s1 from ⟨by rw [hpt, Nat.add_sub_cancel], he, HM3.out.1, HM3.out.2.1, hres⟩)
              have u9 : decide ((t : Int) < 0) = false := by simp
              have HM19 := Lib.hid hm19
              clear hres q q1 q2 q3 hst2 hfd hdec3 hkk hd3 he hm19 hmm hbg ht0 hpt
              go_wp2_with fail
              refine CS.out.mono ?_
              rintro e4 w4 ⟨rfl, hw4⟩
              obtain rfl := hw4.symm
              go_wp2_with fail
              go_roundw
              case rel => exact Or.inl ⟨m + 1, 2 * u + b, f', t, s1, by have := HPS.out.2.2; omega, by omega, rfl, rfl, X.out⟩
              case measure =>
                have h1 := HAT.out.2.1
                have h2 := HAT.out.2.2
                have h3 := HM19.out
                have h4 := HM3.out.2.2
                show leftR R ys.length w3 < leftR R ys.length wr
                omega
        · have u4 : (s1.e == 0) = false := by simpa using he
          have u5 : (s1.e != 0) = true := by simpa using he
          have u6 : decide (s1.e = 0) = false := by simpa using he
          have X := Lib.hid (show Ends w0 P R D ys most K f1 f2 fin.2 w (.int .i64 fin.1) (.returned (.int .i64 (-1))) w3 from by
            have h := HRES.out
            rw [if_pos he] at h
            rw [HF.out, h, if_pos he]
            exact ⟨rfl, HM3.out.1, HM3.out.2.1⟩)
          go_wp2_with fail
          go_ret
          exact X.out
      · have u9 : ((sy : Int) == -1) = false := by simp
        have u8 : decide ((sy : Int) = -1) = false := by simp
        have X := Lib.hid (show Ends w0 P R D ys most K f1 f2 fin.2 w (.int .i64 fin.1) (.returned (.int .i64 sy)) wr from by
          rw [HF.out, hres]
          simp only [he0, ne_eq, not_true_eq_false, if_false]
          exact ⟨rfl, hm, hk⟩)
        clear hm hk hres he0
        go_wp2_with fail
        go_ret
        exact X.out
  · have e0 : psym ys (cdOf zs) s = (-1, s) := by unfold psym; rw [if_pos h0]
    have eN : num ys 1 s = (0, s) := by unfold num; rw [if_pos h0]
    rw [e0]
    have HM := Lib.hid h
    have H0 := Lib.hid h0
    have EN := Lib.hid eN
    clear h h0 e0 eN hdec hKG hKg hTF htree hcs hpsl hz300
    go_enter Tryd.func44, Tryd.ntmps44
    go_wp2_with fail
    go_loopw [5, 6] (fun sv mv wl => sv = .int .i64 0 ∧ mv = .int .i64 (-1) ∧ Pm w0 P R D ys most K f1 f2 s wl ∧ Kept K w wl) (fun _ _ _ => 0)
    case atStart => exact ⟨rfl, rfl, HM.out, Kept.refl _ _⟩
    case round =>
      obtain ⟨rfl, rfl, hm, hk⟩ := hrel
      have CG := Lib.hid (number_any hm 1 (by omega))
      rw [EN.out] at CG
      have HK := Lib.hid hk
      clear hm hk
      go_wp2_with fail
      refine CG.out.mono ?_
      rintro e3 w3 ⟨rfl, hm3, hk3⟩
      obtain ⟨c0, c2, c3, c4, c5, cf⟩ := hm3.cells
      have he := H0.out
      have u4 : (s.e == 0) = false := by simpa using he
      have u5 : (s.e != 0) = true := by simpa using he
      have u6 : decide (s.e = 0) = false := by simpa using he
      have X := Lib.hid (And.intro hm3 (Kept.trans HK.out hk3))
      clear hm3 hk3 CG he
      go_wp2_with fail
      go_ret
      exact ⟨rfl, X.out⟩
end Go.Proofs.YtpmoknnhgginjaaDoor.Pr

/- The program's block of kind 0. -/
namespace Go.Proofs.YtpmoknnhgginjaaDoor.Pr
open Go.RowKit Lzz Ref
set_option linter.unusedVariables false
variable {w0 w w2 : World} {P R D : Nat} {ys : List Nat} {most : Int} {K : Nat → Prop} {f1 f2 : Value} {s : St}

/-- So many bytes, as the program reads them: behind a fault a nought comes out. -/
def bytesP (ys : List Nat) : Nat → St → St
  | 0, s => s
  | k + 1, s => if s.e ≠ 0 then s else bytesP ys k { (num ys 8 s).2 with out := (num ys 8 s).2.out ++ [(num ys 8 s).1] }
def plainP (ys : List Nat) (most : Int) (s : St) : St :=
  bytesP ys (num ys 16 (aligned s)).1 (roomS most (num ys 16 (aligned s)).1 (if (num ys 16 (aligned s)).1 ^^^ (num ys 16 (num ys 16 (aligned s)).2).1 ≠ 65535 then (num ys 16 (num ys 16 (aligned s)).2).2.fail 25 else (num ys 16 (num ys 16 (aligned s)).2).2))
theorem num_lt (ys : List Nat) (k : Nat) (s : St) : (num ys k s).1 < 2 ^ k := by
  unfold num
  split
  · exact Nat.two_pow_pos k
  · exact get_lt ys k s
theorem num_out (ys : List Nat) (k : Nat) (s : St) : (num ys k s).2.out = s.out := by
  unfold num
  split
  · rfl
  · exact get_out ys k s
theorem num_bad (ys : List Nat) (k : Nat) (s : St) (h : s.e ≠ 0) : num ys k s = (0, s) := by unfold num; rw [if_pos h]
theorem num_good (ys : List Nat) (k : Nat) (s : St) (h : s.e = 0) : num ys k s = Ref.get ys k s := by unfold num; rw [if_neg (by simp [h])]
theorem bytesP_bad (ys : List Nat) (n : Nat) (s : St) (h : s.e ≠ 0) : bytesP ys n s = s := by
  cases n with
  | zero => rfl
  | succ n => rw [bytesP, if_pos h]
theorem i64_xor_nat (a b : Nat) (ha : a < 9223372036854775808) (hb : b < 9223372036854775808) : bits .xor .i64 (a : Int) (b : Int) = ((a ^^^ b : Nat) : Int) := by
  have hx : a ^^^ b < 2 ^ 63 := Nat.xor_lt_two_pow (by omega) (by omega)
  show IntKind.i64.wrap ((BitVec.ofInt 64 (a : Int) ^^^ BitVec.ofInt 64 (b : Int)).toNat : Int) = _
  rw [BitVec.toNat_xor, BitVec.toNat_ofInt, BitVec.toNat_ofInt]
  rw [show ((a : Int) % (2 ^ 64 : Nat)).toNat = a by omega, show ((b : Int) % (2 ^ 64 : Nat)).toNat = b by omega, wrap_i64 _ (by omega) (by omega)]

set_option maxRecDepth 100000 in
set_option maxHeartbeats 3200000 in
theorem plain_any (h : Pm w0 P R D ys most K f1 f2 s w) :
    Calls Tryd.prog 32 #[.pointer (some ⟨P, 0, none⟩)] w (Ends w0 P R D ys most K f1 f2 (plainP ys most s) w (.tuple #[])) := by
  obtain ⟨c0, c2, c3, c4, c5, cf⟩ := h.cells
  have CA := Lib.hid (Bi.align_any w w0.heap.size R D s.at_ false ys h.rd)
  have HRD := Lib.hid (fun w2 hr hk => h.read (w2 := w2) ((s.at_ + 7) / 8 * 8) hr hk)
  have HPL := Lib.hid (show plainP ys most s = bytesP ys (num ys 16 (aligned s)).1 (roomS most (num ys 16 (aligned s)).1 (if (num ys 16 (aligned s)).1 ^^^ (num ys 16 (num ys 16 (aligned s)).2).1 ≠ 65535 then (num ys 16 (num ys 16 (aligned s)).2).2.fail 25 else (num ys 16 (num ys 16 (aligned s)).2).2)) from rfl)
  have HAL := Lib.hid (show aligned s = { s with at_ := (s.at_ + 7) / 8 * 8 } from rfl)
  generalize plainP ys most s = res at *
  clear h
  go_enter Tryd.func32, Tryd.ntmps32
  go_wp2_with fail
  refine CA.out.mono ?_
  rintro e0 w1 ⟨rfl, hr, hk⟩
  have h1 := And.intro (HRD.out w1 hr hk).1 (HRD.out w1 hr hk).2.1
  rw [← HAL.out] at h1
  have HM1 := Lib.hid h1
  have CG1 := Lib.hid (number_any h1.1 16 (by omega))
  have hN := num_lt ys 16 (aligned s)
  have hpl := HPL.out
  generalize num ys 16 (aligned s) = g1 at *
  obtain ⟨N, s1⟩ := g1
  try simp only at hN hpl
  have HPL2 := Lib.hid hpl
  clear hr hk h1 c0 c2 c3 c4 c5 cf hpl HPL
  go_wp2_with fail
  refine CG1.out.mono ?_
  rintro e2 w2 ⟨rfl, hm2, hk2⟩
  have HM2 := Lib.hid (And.intro hm2 (Kept.trans HM1.out.2 hk2))
  have CG2 := Lib.hid (number_any hm2 16 (by omega))
  have hM := num_lt ys 16 s1
  have hpl := HPL2.out
  generalize num ys 16 s1 = g2 at *
  obtain ⟨M, s2⟩ := g2
  try simp only at hM hpl
  have HPL3 := Lib.hid hpl
  clear hm2 hk2 hpl HPL2 CG1
  go_wp2_with fail
  refine CG2.out.mono ?_
  rintro e3 w3 ⟨rfl, hm3, hk3⟩
  try simp only at hm3
  have hN2 : N < 65536 := hN
  have hM2 : M < 65536 := hM
  have HM3 := Lib.hid (And.intro hm3 (Kept.trans HM2.out.2 hk3))
  have CF := Lib.hid (fail_any hm3 25 (by omega))
  clear hm3 hk3 CG2 hN hM
  obtain ⟨X, hX⟩ : ∃ X, X = N ^^^ M := ⟨_, rfl⟩
  have hxor : bits .xor .i64 (N : Int) (M : Int) = (X : Int) := by rw [hX]; exact i64_xor_nat _ _ (by omega) (by omega)
  have hpl := HPL3.out
  rw [← hX] at hpl
  -- from the room on
  have TAIL : ∀ (s3 : St) (w4 : World), res = bytesP ys N (roomS most N s3) → Pm w0 P R D ys most K f1 f2 s3 w4 → Kept K w w4 → Pm w0 P R D ys most K f1 f2 s3 w4 ∧ Kept K w w4 ∧ Calls Tryd.prog 43 #[.pointer (some ⟨P, 0, none⟩), .int .i64 N] w4 (fun e w5 => e = .returned (.tuple #[]) ∧ ∃ s4, Pm w0 P R D ys most K f1 f2 s4 w5 ∧ Kept K w w5 ∧ res = bytesP ys N s4 ∧ (s4.e = 0 → ((s4.out.length + N : Nat) : Int) ≤ most)) := by
    intro s3 w4 hr hm hk
    refine ⟨hm, hk, (room_any hm N (by omega)).mono ?_⟩
    rintro e w5 ⟨rfl, hm5, hk5⟩
    refine ⟨rfl, _, hm5, Kept.trans hk hk5, hr, fun h0 => ?_⟩
    obtain ⟨q1, q2⟩ := roomS_stay h0
    rw [q1]; exact q2
  have HT := Lib.hid TAIL
  clear TAIL hX HPL3
  by_cases hbad : X = 65535
  · have u : ((X : Int) != 65535) = false := by simp [hbad]
    have u1 : ((X : Int) == 65535) = true := by simp [hbad]
    rw [if_neg (by simp [hbad])] at hpl
    obtain ⟨-, -, C⟩ := HT.out s2 w3 hpl HM3.out.1 HM3.out.2
    have CR := Lib.hid C
    clear hpl C CF
    subst hbad
    go_wp2_with fail
    refine CR.out.mono ?_
    rintro e5 w5 ⟨rfl, s4, hm5, hk5, hres, hrm⟩
    have HS := Lib.hid (And.intro hm5 (And.intro hk5 (And.intro hres hrm)))
    clear hm5 hk5 hres hrm CR
    go_wp2_with fail
    clear hxor
    go_loopw [2] (fun nv wl => ∃ (j : Nat) (s' : St), j ≤ N ∧ nv = .int .i64 j ∧ Pm w0 P R D ys most K f1 f2 s' wl ∧ Kept K w wl ∧ res = bytesP ys j s' ∧ (s'.e = 0 → ((s'.out.length + j : Nat) : Int) ≤ most)) (fun nv _ => (intOf nv).toNat)
    case atStart => exact ⟨N, s4, Nat.le_refl _, rfl, HS.out⟩
    case round =>
      clear HS
      obtain ⟨j, s', hj, rfl, hm, hk, hres, hrm⟩ := hrel
      obtain ⟨d0, d2, d3, d4, d5, df⟩ := hm.cells
      by_cases hgo : 0 < j ∧ s'.e = 0
      · obtain ⟨h0, he⟩ := hgo
        obtain ⟨k, rfl⟩ : ∃ k, j = k + 1 := ⟨j - 1, by omega⟩
        rw [he] at d3
        rw [bytesP, if_neg (by simp [he])] at hres
        have hrm := hrm he
        obtain ⟨a5, p5, ho5, hpush⟩ := hm.out
        have c1 := ho5.cell
        obtain ⟨l5, hl5⟩ : ∃ l5, l5 = s'.out.length := ⟨_, rfl⟩
        have hmd := hm.drewN 1
        have CALL := Lib.hid (number_st hmd.1 8 (by omega))
        have hc8 := num_lt ys 8 s'
        have hou := num_out ys 8 s'
        generalize num ys 8 s' = g8 at *
        obtain ⟨y, s8⟩ := g8
        try simp only at hres hc8 hou
        have hy256 : y < 256 := hc8
        have hu8 : IntKind.u8.wrap (y : Int) = (y : Int) := by simp [IntKind.wrap, IntKind.bits, IntKind.signed]; omega
        rw [← hl5] at c1
        have HRES := Lib.hid hres
        have HRM := Lib.hid hrm
        have HL5 := Lib.hid hl5
        have HOU := Lib.hid hou
        have HK := Lib.hid hk
        have hl5b : l5 ≤ 16777216 := by have := hm.room; omega
        have CALL2 := Lib.hid (show Calls Tryd.prog 21 #[.pointer (some ⟨P, 0, none⟩), .int .i64 8] wr.drew (fun e w' => e = .returned (.int .i64 y) ∧ (Pm w0 P R D ys most K f1 f2 s8 w' ∧ Kept K wr w' ∧ w'.cell? ⟨P, 1, none⟩ = some (.slice a5 l5 p5))) from CALL.out.mono (fun e w' h => ⟨h.1, h.2.1, Kept.trans hmd.2 h.2.2.1, h.2.2.2.trans c1⟩))
        have FX := Lib.hid (fun (w5 : World) (hx : Pm w0 P R D ys most K f1 f2 s8 w5 ∧ Kept K wr w5 ∧ w5.cell? ⟨P, 1, none⟩ = some (.slice a5 l5 p5)) => show w5.cell? ⟨P, 1, none⟩ = some (.slice a5 l5 p5) ∧ (w5.alloc (.cells #[.int .u8 (y : Nat)] 5)).cell? ⟨P, 1, none⟩ = some (.slice a5 l5 p5) ∧
            Hid ((w5.alloc (.cells #[.int .u8 (y : Nat)] 5)).ownsRow w0.heap.size 5 1 (.slice a5 l5 p5) l5 (bys s8.out)) ∧ Hid (Bytes (w5.alloc (.cells #[.int .u8 (y : Nat)] 5)) (some ⟨w5.heap.size, 0, none⟩) 1 [y]) ∧ w0.heap.size ≤ (w5.alloc (.cells #[.int .u8 (y : Nat)] 5)).heap.size ∧
            Hid (∀ (aa : Option Addr) (cap : Nat) (w8 : World), w8.ownsRow w0.heap.size 5 1 (.slice aa (l5 + 1) cap) (l5 + 1) (bys (s8.out ++ [y])) → (w5.alloc (.cells #[.int .u8 (y : Nat)] 5)).grownBy w8 (Value.slice a5 l5 p5).ownBlock →
              ((Value.slice aa (l5 + 1) cap).ownBlock = (Value.slice a5 l5 p5).ownBlock ∨ (Value.slice aa (l5 + 1) cap).ownBlock = some (w5.alloc (.cells #[.int .u8 (y : Nat)] 5)).heap.size) →
              (w8.cell? ⟨P, 1, none⟩ = some (.slice a5 l5 p5) ∧ w8.frozen? ⟨P, 1, none⟩ = false) ∧ Pm w0 P R D ys most K f1 f2 { s8 with out := s8.out ++ [y] } (w8.setCell ⟨P, 1, none⟩ (.slice aa (l5 + 1) cap)) ∧ Kept K wr (w8.setCell ⟨P, 1, none⟩ (.slice aa (l5 + 1) cap))) from by
          obtain ⟨hx1, hx2, hx3⟩ := hx
          obtain ⟨a6, p6, ho6, hpush⟩ := hx1.out
          have e := ho6.cell
          have el : s8.out.length = l5 := by rw [HOU.out, HL5.out]
          rw [hx3, el] at e
          simp only [Option.some.injEq, Value.slice.injEq, true_and] at e
          obtain ⟨rfl, rfl⟩ := e
          have hP5 := hx1.lt
          have WA : Below w5.heap.size w5 (w5.alloc (.cells #[.int .u8 (y : Nat)] 5)) := (Below.refl _ _).alloc (Nat.le_refl _) _
          have hown := ho6.own
          rw [el] at hown hpush
          refine ⟨hx3, (World.cell?_of_block (w := w5) (Below.heap_alloc _ _ _ hP5)).trans hx3, Lib.hid (own_kept2 hown (fun k e => WA.block k (own_lt2 hown k e).2)), Lib.hid (one_byte w5 y hy256), Nat.le_trans hx1.old.size WA.size, Lib.hid (fun aa cap w8 hown8 hg8 hat8 => ?_)⟩
          obtain ⟨z1, z2, z3⟩ := hpush y _ w8 aa cap _ hy256 (by have := HRM.out; rw [HL5.out] at *; omega) WA hown8 hg8 hat8 WA.size
          exact ⟨z1, z2, Kept.trans hx2 z3⟩)
        have ENT : ∀ (vs : Array Value) (w : World), (callFunc 21 vs).run Tryd.prog w = .ok (.enter 21 vs) w := enters_of Tryd.func21 (by kernel_rfl) rfl
        have ENT := Lib.hid ENT
        clear hres hc8 hou hrm hm hk hpush ho5 hl5 hmd CALL
        go_wp2_with fail
        go_region_law (first
          | (refine step_call (by rfl) 21 #[.tmp 38, .const (.int .i64 8)] #[50, 3] (by rfl) ENT.out #[.pointer (some ⟨P, 0, none⟩), .int .i64 8] (by rfl) (.int .i64 y) _ CALL2.out ?_; intro w5 hx5; obtain ⟨q1, q2, q3, q4, q5, q6⟩ := FX.out w5 hx5; clear hx5)
          | (refine step_append_text (by rfl) (.tmp 37) (.tmp 41) (by rfl) w0.heap.size l5 (.slice a5 l5 p5) s8.out (by rfl) q3.out (some ⟨w5.heap.size, 0, none⟩) 1 1 [y] (by rfl) q4.out (by intro e; cases e) (by omega) (by omega) q5 ?_; intro aa cap w8 hown8 hgrow8 hat8; have q8 := (q6.out aa cap w8 hown8 hgrow8 hat8).1))
        all_goals
          have X := Lib.hid (q6.out aa cap w8 hown8 hgrow8 hat8).2
          clear hown8 hgrow8 hat8 q8 q1 q2 q3 q4 q5 q6 d0 d2 d3 d4 d5 df c1
          generalize w8.setCell ⟨P, 1, none⟩ (.slice aa (l5 + 1) cap) = w9 at *
          go_wp2_with fail
          go_roundw
          case rel => exact ⟨k, { s8 with out := s8.out ++ [y] }, by omega, by go_num, X.out.1, Kept.trans HK.out X.out.2, HRES.out, fun _ => by have h1 := HRM.out; have h2 := HOU.out; simp only [List.length_append, List.length_singleton]; rw [h2]; omega⟩
          case measure => simp [intOf] <;> omega
      · have X := Lib.hid (show Ends w0 P R D ys most K f1 f2 res w (.tuple #[]) (.returned (.tuple #[])) wr from by
          have e : res = s' := by
            by_cases he : s'.e = 0
            · obtain rfl : j = 0 := by omega
              exact hres
            · rw [hres]; exact bytesP_bad ys j s' he
          rw [e]; exact ⟨rfl, hm, hk⟩)
        by_cases h0 : 0 < j
        · have he : s'.e ≠ 0 := fun h => hgo ⟨h0, h⟩
          have u5 : (s'.e != 0) = true := by simpa using he
          have u6 : (s'.e == 0) = false := by simpa using he
          have u7 : decide (s'.e = 0) = false := by simpa using he
          have u8 : decide ((0 : Int) < (j : Int)) = true := by simpa using h0
          clear hm hk hres hrm hgo
          go_wp2_with fail
          go_end0
          exact X.out
        · obtain rfl : j = 0 := by omega
          clear hm hk hres hrm hgo
          go_wp2_with fail
          go_end0
          exact X.out
  · have u : ((X : Int) != 65535) = true := by simp; omega
    have u1 : ((X : Int) == 65535) = false := by simp; omega
    rw [if_pos hbad] at hpl
    have HPL4 := Lib.hid hpl
    clear hpl
    go_wp2_with fail
    refine CF.out.mono ?_
    rintro e4 w4 ⟨rfl, hm4, hk4⟩
    obtain ⟨-, -, C⟩ := HT.out (s2.fail 25) w4 HPL4.out hm4 (Kept.trans HM3.out.2 hk4)
    have CR := Lib.hid C
    clear hm4 hk4 C CF
    go_wp2_with fail
    refine CR.out.mono ?_
    rintro e5 w5 ⟨rfl, s4, hm5, hk5, hres, hrm⟩
    have HS := Lib.hid (And.intro hm5 (And.intro hk5 (And.intro hres hrm)))
    clear hm5 hk5 hres hrm CR u u1
    go_wp2_with fail
    clear hxor
    go_loopw [2] (fun nv wl => ∃ (j : Nat) (s' : St), j ≤ N ∧ nv = .int .i64 j ∧ Pm w0 P R D ys most K f1 f2 s' wl ∧ Kept K w wl ∧ res = bytesP ys j s' ∧ (s'.e = 0 → ((s'.out.length + j : Nat) : Int) ≤ most)) (fun nv _ => (intOf nv).toNat)
    case atStart => exact ⟨N, s4, Nat.le_refl _, rfl, HS.out⟩
    case round =>
      clear HS
      obtain ⟨j, s', hj, rfl, hm, hk, hres, hrm⟩ := hrel
      obtain ⟨d0, d2, d3, d4, d5, df⟩ := hm.cells
      by_cases hgo : 0 < j ∧ s'.e = 0
      · obtain ⟨h0, he⟩ := hgo
        obtain ⟨k, rfl⟩ : ∃ k, j = k + 1 := ⟨j - 1, by omega⟩
        rw [he] at d3
        rw [bytesP, if_neg (by simp [he])] at hres
        have hrm := hrm he
        obtain ⟨a5, p5, ho5, hpush⟩ := hm.out
        have c1 := ho5.cell
        obtain ⟨l5, hl5⟩ : ∃ l5, l5 = s'.out.length := ⟨_, rfl⟩
        have hmd := hm.drewN 1
        have CALL := Lib.hid (number_st hmd.1 8 (by omega))
        have hc8 := num_lt ys 8 s'
        have hou := num_out ys 8 s'
        generalize num ys 8 s' = g8 at *
        obtain ⟨y, s8⟩ := g8
        try simp only at hres hc8 hou
        have hy256 : y < 256 := hc8
        have hu8 : IntKind.u8.wrap (y : Int) = (y : Int) := by simp [IntKind.wrap, IntKind.bits, IntKind.signed]; omega
        rw [← hl5] at c1
        have HRES := Lib.hid hres
        have HRM := Lib.hid hrm
        have HL5 := Lib.hid hl5
        have HOU := Lib.hid hou
        have HK := Lib.hid hk
        have hl5b : l5 ≤ 16777216 := by have := hm.room; omega
        have CALL2 := Lib.hid (show Calls Tryd.prog 21 #[.pointer (some ⟨P, 0, none⟩), .int .i64 8] wr.drew (fun e w' => e = .returned (.int .i64 y) ∧ (Pm w0 P R D ys most K f1 f2 s8 w' ∧ Kept K wr w' ∧ w'.cell? ⟨P, 1, none⟩ = some (.slice a5 l5 p5))) from CALL.out.mono (fun e w' h => ⟨h.1, h.2.1, Kept.trans hmd.2 h.2.2.1, h.2.2.2.trans c1⟩))
        have FX := Lib.hid (fun (w5 : World) (hx : Pm w0 P R D ys most K f1 f2 s8 w5 ∧ Kept K wr w5 ∧ w5.cell? ⟨P, 1, none⟩ = some (.slice a5 l5 p5)) => show w5.cell? ⟨P, 1, none⟩ = some (.slice a5 l5 p5) ∧ (w5.alloc (.cells #[.int .u8 (y : Nat)] 5)).cell? ⟨P, 1, none⟩ = some (.slice a5 l5 p5) ∧
            Hid ((w5.alloc (.cells #[.int .u8 (y : Nat)] 5)).ownsRow w0.heap.size 5 1 (.slice a5 l5 p5) l5 (bys s8.out)) ∧ Hid (Bytes (w5.alloc (.cells #[.int .u8 (y : Nat)] 5)) (some ⟨w5.heap.size, 0, none⟩) 1 [y]) ∧ w0.heap.size ≤ (w5.alloc (.cells #[.int .u8 (y : Nat)] 5)).heap.size ∧
            Hid (∀ (aa : Option Addr) (cap : Nat) (w8 : World), w8.ownsRow w0.heap.size 5 1 (.slice aa (l5 + 1) cap) (l5 + 1) (bys (s8.out ++ [y])) → (w5.alloc (.cells #[.int .u8 (y : Nat)] 5)).grownBy w8 (Value.slice a5 l5 p5).ownBlock →
              ((Value.slice aa (l5 + 1) cap).ownBlock = (Value.slice a5 l5 p5).ownBlock ∨ (Value.slice aa (l5 + 1) cap).ownBlock = some (w5.alloc (.cells #[.int .u8 (y : Nat)] 5)).heap.size) →
              (w8.cell? ⟨P, 1, none⟩ = some (.slice a5 l5 p5) ∧ w8.frozen? ⟨P, 1, none⟩ = false) ∧ Pm w0 P R D ys most K f1 f2 { s8 with out := s8.out ++ [y] } (w8.setCell ⟨P, 1, none⟩ (.slice aa (l5 + 1) cap)) ∧ Kept K wr (w8.setCell ⟨P, 1, none⟩ (.slice aa (l5 + 1) cap))) from by
          obtain ⟨hx1, hx2, hx3⟩ := hx
          obtain ⟨a6, p6, ho6, hpush⟩ := hx1.out
          have e := ho6.cell
          have el : s8.out.length = l5 := by rw [HOU.out, HL5.out]
          rw [hx3, el] at e
          simp only [Option.some.injEq, Value.slice.injEq, true_and] at e
          obtain ⟨rfl, rfl⟩ := e
          have hP5 := hx1.lt
          have WA : Below w5.heap.size w5 (w5.alloc (.cells #[.int .u8 (y : Nat)] 5)) := (Below.refl _ _).alloc (Nat.le_refl _) _
          have hown := ho6.own
          rw [el] at hown hpush
          refine ⟨hx3, (World.cell?_of_block (w := w5) (Below.heap_alloc _ _ _ hP5)).trans hx3, Lib.hid (own_kept2 hown (fun k e => WA.block k (own_lt2 hown k e).2)), Lib.hid (one_byte w5 y hy256), Nat.le_trans hx1.old.size WA.size, Lib.hid (fun aa cap w8 hown8 hg8 hat8 => ?_)⟩
          obtain ⟨z1, z2, z3⟩ := hpush y _ w8 aa cap _ hy256 (by have := HRM.out; rw [HL5.out] at *; omega) WA hown8 hg8 hat8 WA.size
          exact ⟨z1, z2, Kept.trans hx2 z3⟩)
        have ENT : ∀ (vs : Array Value) (w : World), (callFunc 21 vs).run Tryd.prog w = .ok (.enter 21 vs) w := enters_of Tryd.func21 (by kernel_rfl) rfl
        have ENT := Lib.hid ENT
        clear hres hc8 hou hrm hm hk hpush ho5 hl5 hmd CALL
        go_wp2_with fail
        go_region_law (first
          | (refine step_call (by rfl) 21 #[.tmp 38, .const (.int .i64 8)] #[50, 3] (by rfl) ENT.out #[.pointer (some ⟨P, 0, none⟩), .int .i64 8] (by rfl) (.int .i64 y) _ CALL2.out ?_; intro w5 hx5; obtain ⟨q1, q2, q3, q4, q5, q6⟩ := FX.out w5 hx5; clear hx5)
          | (refine step_append_text (by rfl) (.tmp 37) (.tmp 41) (by rfl) w0.heap.size l5 (.slice a5 l5 p5) s8.out (by rfl) q3.out (some ⟨w5.heap.size, 0, none⟩) 1 1 [y] (by rfl) q4.out (by intro e; cases e) (by omega) (by omega) q5 ?_; intro aa cap w8 hown8 hgrow8 hat8; have q8 := (q6.out aa cap w8 hown8 hgrow8 hat8).1))
        all_goals
          have X := Lib.hid (q6.out aa cap w8 hown8 hgrow8 hat8).2
          clear hown8 hgrow8 hat8 q8 q1 q2 q3 q4 q5 q6 d0 d2 d3 d4 d5 df c1
          generalize w8.setCell ⟨P, 1, none⟩ (.slice aa (l5 + 1) cap) = w9 at *
          go_wp2_with fail
          go_roundw
          case rel => exact ⟨k, { s8 with out := s8.out ++ [y] }, by omega, by go_num, X.out.1, Kept.trans HK.out X.out.2, HRES.out, fun _ => by have h1 := HRM.out; have h2 := HOU.out; simp only [List.length_append, List.length_singleton]; rw [h2]; omega⟩
          case measure => simp [intOf] <;> omega
      · have X := Lib.hid (show Ends w0 P R D ys most K f1 f2 res w (.tuple #[]) (.returned (.tuple #[])) wr from by
          have e : res = s' := by
            by_cases he : s'.e = 0
            · obtain rfl : j = 0 := by omega
              exact hres
            · rw [hres]; exact bytesP_bad ys j s' he
          rw [e]; exact ⟨rfl, hm, hk⟩)
        by_cases h0 : 0 < j
        · have he : s'.e ≠ 0 := fun h => hgo ⟨h0, h⟩
          have u5 : (s'.e != 0) = true := by simpa using he
          have u6 : (s'.e == 0) = false := by simpa using he
          have u7 : decide (s'.e = 0) = false := by simpa using he
          have u8 : decide ((0 : Int) < (j : Int)) = true := by simpa using h0
          clear hm hk hres hrm hgo
          go_wp2_with fail
          go_end0
          exact X.out
        · obtain rfl : j = 0 := by omega
          clear hm hk hres hrm hgo
          go_wp2_with fail
          go_end0
          exact X.out
end Go.Proofs.YtpmoknnhgginjaaDoor.Pr

/- The program's distance and copy. -/
namespace Go.Proofs.YtpmoknnhgginjaaDoor.Pr
open Go.RowKit Lzz Ref
set_option linter.unusedVariables false
variable {w0 w w2 : World} {P R D : Nat} {ys : List Nat} {most : Int} {K : Nat → Prop} {f1 f2 : Value} {s : St}

/-- A distance, from its symbol on. -/
def distT (ys : List Nat) (t : Int × St) : Nat × St :=
  if t.1 = -1 then (0, t.2) else if 29 < t.1 then (0, t.2.fail 25) else ((distP t.1.toNat).1 + (num ys (distP t.1.toNat).2 t.2).1, (num ys (distP t.1.toNat).2 t.2).2)
theorem psym_pos (ys : List Nat) (cd : Cd) (s : St) (h : (psym ys cd s).1 ≠ -1) : 0 ≤ (psym ys cd s).1 ∧ (psym ys cd s).2.e = 0 ∧ s.e = 0 ∧ psym ys cd s = sym ys cd s := by
  unfold psym at h ⊢
  split
  · rename_i h1; rw [if_pos h1] at h; exact absurd rfl h
  · rename_i h1
    rw [if_neg h1] at h
    split
    · rename_i h2; rw [if_pos h2] at h; exact absurd rfl h
    · rename_i h2; exact ⟨sym_pos ys cd s, by simpa using h2, by simpa using h1, rfl⟩
theorem distP_bd (t : Nat) (h : t ≤ 29) : (distP t).1 ≤ 32769 ∧ (distP t).2 ≤ 13 ∧ 1 ≤ (distP t).1 :=
  ⟨distB_le t (by omega), farP_le t h, by
    show 1 ≤ distB t
    induction t with
    | zero => simp [distB]
    | succ k ih => rw [distB]; exact Nat.le_trans (ih (by omega)) (Nat.le_add_right _ _)⟩
theorem lengthP_bd (j : Nat) (h : j ≤ 28) : (lengthP j).1 ≤ 300 ∧ (lengthP j).2 ≤ 6 := by
  unfold lengthP
  split
  · simp
  · exact ⟨lenB_le j h, extraP_le j h⟩
set_option maxRecDepth 100000 in
set_option maxHeartbeats 1600000 in
theorem distance_any (h : Pm w0 P R D ys most K f1 f2 s w) (v : Value) (zs : List Int) (hd : DecIn K w v zs) :
    Calls Tryd.prog 55 #[.pointer (some ⟨P, 0, none⟩), v] w (Ends w0 P R D ys most K f1 f2 (distT ys (psym ys (cdOf zs) s)).2 w (.int .i64 (distT ys (psym ys (cdOf zs) s)).1)) := by
  have CS := Lib.hid (symbol_any h v zs hd)
  have hpos := psym_pos ys (cdOf zs) s
  have hdt := show distT ys (psym ys (cdOf zs) s) = if (psym ys (cdOf zs) s).1 = -1 then (0, (psym ys (cdOf zs) s).2) else if 29 < (psym ys (cdOf zs) s).1 then (0, (psym ys (cdOf zs) s).2.fail 25) else ((distP (psym ys (cdOf zs) s).1.toNat).1 + (num ys (distP (psym ys (cdOf zs) s).1.toNat).2 (psym ys (cdOf zs) s).2).1, (num ys (distP (psym ys (cdOf zs) s).1.toNat).2 (psym ys (cdOf zs) s).2).2) from rfl
  generalize distT ys (psym ys (cdOf zs) s) = res at *
  generalize psym ys (cdOf zs) s = t at *
  obtain ⟨t, s1⟩ := t
  try simp only at hpos hdt
  have HDT := Lib.hid hdt
  have HPO := Lib.hid hpos
  clear hdt hpos h hd
  go_enter Tryd.func55, Tryd.ntmps55
  go_wp2_with fail
  refine CS.out.mono ?_
  rintro e1 w1 ⟨rfl, hm1, hk1⟩
  try simp only at hm1
  by_cases hn : t = -1
  · subst hn
    have hr := HDT.out
    rw [if_pos rfl] at hr
    have X := Lib.hid (show Ends w0 P R D ys most K f1 f2 res.2 w (.int .i64 res.1) (.returned (.int .i64 0)) w1 from by rw [hr]; exact ⟨rfl, hm1, hk1⟩)
    clear hr hm1 hk1 CS
    go_wp2_with fail
    go_ret
    exact X.out
  · have hr := HDT.out
    rw [if_neg hn] at hr
    obtain ⟨p0, p1, p2, -⟩ := HPO.out hn
    have u : (t == -1) = false := by simpa using hn
    obtain ⟨t', rfl⟩ : ∃ t' : Nat, t = (t' : Int) := ⟨t.toNat, by omega⟩
    by_cases hfar : 29 < t'
    · rw [if_pos (by omega)] at hr
      have u9 : decide ((29 : Int) < (t' : Int)) = true := by simp; omega
      have CF := Lib.hid (fail_any hm1 25 (by omega))
      have HR := Lib.hid hr
      have HK := Lib.hid hk1
      clear hr hm1 hk1 CS hn hfar
      go_wp2_with fail
      refine CF.out.mono ?_
      rintro e9 w9 ⟨rfl, h9, k9⟩
      have X := Lib.hid (show Ends w0 P R D ys most K f1 f2 res.2 w (.int .i64 res.1) (.returned (.int .i64 0)) w9 from by rw [HR.out]; exact ⟨rfl, h9, Kept.trans HK.out k9⟩)
      clear h9 k9
      go_wp2_with fail
      go_ret
      exact X.out
    · rw [if_neg (by omega)] at hr
      have ht29 : t' ≤ 29 := by omega
      have u9 : decide ((29 : Int) < (t' : Int)) = false := by simp; omega
      have CD := Lib.hid (distBase_any w1 t' ht29)
      have hdl := distP_bd t' ht29
      try simp only [Int.toNat_natCast] at hr
      generalize distP t' = dp at *
      obtain ⟨dbase, y⟩ := dp
      try simp only at hr hdl
      obtain ⟨hd1, hy13, hd0⟩ := hdl
      have CG := Lib.hid (number_any hm1 y (by omega))
      have hg := num_lt ys y s1
      have hp13 : 2 ^ y ≤ 2 ^ 13 := Nat.pow_le_pow_right (by omega) hy13
      generalize num ys y s1 = g2 at *
      obtain ⟨b2, s3⟩ := g2
      try simp only at hr hg
      have hb8192 : b2 < 8192 := by omega
      have waway : IntKind.i64.wrap ((dbase : Int) + (b2 : Int)) = (dbase : Int) + (b2 : Int) := wrap_i64 _ (by omega) (by omega)
      have HR := Lib.hid hr
      have HK := Lib.hid hk1
      clear hr hm1 hk1 CS hn hfar hg hp13
      go_wp2_with fail
      refine CD.out.mono ?_
      rintro e5 w5 ⟨rfl, hw5⟩
      obtain rfl := hw5.symm
      go_wp2_with fail
      refine CG.out.mono ?_
      rintro e6 w6 ⟨rfl, hm6, hk6⟩
      try simp only at hm6
      have X := Lib.hid (show Ends w0 P R D ys most K f1 f2 res.2 w (.int .i64 res.1) (.returned (.int .i64 ((dbase : Int) + (b2 : Int)))) w6 from by
        rw [HR.out]
        refine ⟨?_, hm6, Kept.trans HK.out hk6⟩
        simp)
      clear hm6 hk6
      go_wp2_with fail
      go_ret
      exact X.out

/-- A copy, as the program brings it: from its distance on. -/
def copyEnd (most : Int) (len : Nat) (d : Nat × St) : St :=
  if (roomS most len (if d.2.out.length < d.1 then d.2.fail 22 else d.2)).e ≠ 0 then roomS most len (if d.2.out.length < d.1 then d.2.fail 22 else d.2)
  else { d.2 with out := copyN d.1 len d.2.out }
def copyP (ys : List Nat) (most : Int) (zs : List Int) (sy : Nat) (s : St) : St :=
  if 285 < sy then s.fail 25
  else copyEnd most ((lengthP (sy - 257)).1 + (num ys (lengthP (sy - 257)).2 s).1) (distT ys (psym ys (cdOf zs) (num ys (lengthP (sy - 257)).2 s).2))
end Go.Proofs.YtpmoknnhgginjaaDoor.Pr

/- The program's copy. -/
namespace Go.Proofs.YtpmoknnhgginjaaDoor.Pr
open Go.RowKit Lzz Ref
set_option linter.unusedVariables false
variable {w0 w w2 : World} {P R D : Nat} {ys : List Nat} {most : Int} {K : Nat → Prop} {f1 f2 : Value} {s : St}

theorem distT_bd (ys : List Nat) (cd : Cd) (s : St) : (distT ys (psym ys cd s)).1 ≤ 65536 ∧ ((distT ys (psym ys cd s)).2.e = 0 → 1 ≤ (distT ys (psym ys cd s)).1) := by
  have hpos := psym_pos ys cd s
  unfold distT
  split
  · rename_i h
    refine ⟨Nat.zero_le _, fun h0 => ?_⟩
    exfalso
    unfold psym at h h0
    split at h
    · rename_i h1; rw [if_pos h1] at h0; exact h1 h0
    · rename_i h1
      rw [if_neg h1] at h0
      split at h
      · rename_i h2; rw [if_pos h2] at h0; exact h2 h0
      · have := sym_pos ys cd s
        omega
  · rename_i h
    split
    · exact ⟨Nat.zero_le _, fun h0 => absurd h0 (fail_e _ 25 (by omega))⟩
    · rename_i h2
      have h3 := (hpos h).1
      have hb := distP_bd (psym ys cd s).1.toNat (by omega)
      have hn := num_lt ys (distP (psym ys cd s).1.toNat).2 (psym ys cd s).2
      have hp := Nat.pow_le_pow_right (show 0 < 2 by omega) hb.2.1
      generalize (num ys (distP (psym ys cd s).1.toNat).2 (psym ys cd s).2).1 = q at *
      generalize (distP (psym ys cd s).1.toNat).1 = z at *
      exact ⟨by show z + q ≤ 65536; omega, fun _ => by show 1 ≤ z + q; omega⟩

set_option maxRecDepth 100000 in
set_option maxHeartbeats 6400000 in
theorem copy_any (h : Pm w0 P R D ys most K f1 f2 s w) (sy : Nat) (hsy : 257 ≤ sy ∧ sy ≤ 16777216) (v : Value) (zs : List Int) (hd : DecIn K w v zs) :
    Calls Tryd.prog 46 #[.pointer (some ⟨P, 0, none⟩), .int .i64 sy, v] w (Ends w0 P R D ys most K f1 f2 (copyP ys most zs sy s) w (.tuple #[])) := by
  have HRES := Lib.hid (show copyP ys most zs sy s = if 285 < sy then s.fail 25
  else copyEnd most ((lengthP (sy - 257)).1 + (num ys (lengthP (sy - 257)).2 s).1) (distT ys (psym ys (cdOf zs) (num ys (lengthP (sy - 257)).2 s).2)) from rfl)
  generalize copyP ys most zs sy s = res at *
  have HD := Lib.hid hd
  obtain ⟨G, l, c, B, dv, ps, cs, rfl, -⟩ := hd
  by_cases hbig : 285 < sy
  · have u : decide ((285 : Int) < (sy : Int)) = true := by simp; omega
    have hr := HRES.out
    rw [if_pos hbig] at hr
    have HR := Lib.hid hr
    have CF := Lib.hid (fail_any h 25 (by omega))
    clear hr h hbig
    go_enter Tryd.func46, Tryd.ntmps46
    go_wp2_with fail
    refine CF.out.mono ?_
    rintro e9 w9 ⟨rfl, h9, k9⟩
    have X := Lib.hid (show Ends w0 P R D ys most K f1 f2 res w (.tuple #[]) (.returned (.tuple #[])) w9 from by rw [HR.out]; exact ⟨rfl, h9, k9⟩)
    clear h9 k9
    go_wp2_with fail
    go_end0
    exact X.out
  · have u : decide ((285 : Int) < (sy : Int)) = false := by simp; omega
    have hr := HRES.out
    rw [if_neg hbig] at hr
    obtain ⟨j, hj⟩ : ∃ j, j = sy - 257 := ⟨_, rfl⟩
    obtain rfl : sy = 257 + j := by omega
    rw [← hj] at hr
    have hj28 : j ≤ 28 := by omega
    have CL := Lib.hid (lengthBase_any w j hj28)
    have hll := lengthP_bd j hj28
    generalize lengthP j = lp at *
    obtain ⟨base, x⟩ := lp
    try simp only at hr hll
    obtain ⟨hb300, hx6⟩ := hll
    have CG := Lib.hid (number_any h x (by omega))
    have hg := num_lt ys x s
    have hp6 : 2 ^ x ≤ 2 ^ 6 := Nat.pow_le_pow_right (by omega) hx6
    generalize num ys x s = g1 at *
    obtain ⟨b1, s1⟩ := g1
    try simp only at hr hg
    have hb64 : b1 < 64 := by omega
    obtain ⟨len, hlen⟩ : ∃ len, len = base + b1 := ⟨_, rfl⟩
    have wlen : IntKind.i64.wrap ((base : Int) + (b1 : Int)) = (len : Int) := by rw [wrap_i64 _ (by omega) (by omega)]; omega
    have hlen2 : len ≤ 512 := by omega
    rw [← hlen] at hr
    have HR := Lib.hid hr
    clear hr h hbig hj hg hp6 HRES hlen
    go_enter Tryd.func46, Tryd.ntmps46
    go_wp2_with fail
    refine CL.out.mono ?_
    rintro e2 w2 ⟨rfl, hw2⟩
    obtain rfl := hw2.symm
    go_wp2_with fail
    refine CG.out.mono ?_
    rintro e3 w3 ⟨rfl, hm3, hk3⟩
    try simp only at hm3
    have HM3 := Lib.hid (And.intro hm3 hk3)
    have CS := Lib.hid (distance_any hm3 _ zs (HD.out.keep hk3))
    have hbd := distT_bd ys (cdOf zs) s1
    have hr := HR.out
    generalize distT ys (psym ys (cdOf zs) s1) = d at *
    obtain ⟨away, s2⟩ := d
    try simp only at hbd
    have HBD := Lib.hid hbd.2
    have haw2 := hbd.1
    have hr2 := show res = if (roomS most len (if s2.out.length < away then s2.fail 22 else s2)).e ≠ 0 then roomS most len (if s2.out.length < away then s2.fail 22 else s2) else { s2 with out := copyN away len s2.out } from hr
    have HR2 := Lib.hid hr2
    clear hm3 hk3 CG CL hr hr2 HR hbd
    go_wp2_with fail
    refine CS.out.mono ?_
    rintro e4 w4 ⟨rfl, hm4, hk4⟩
    try simp only at hm4
    obtain ⟨d0, d2, d3, d4, d5, df⟩ := hm4.cells
    obtain ⟨aa, cap, c1⟩ := hm4.outCell
    obtain ⟨ol, hol⟩ : ∃ ol, ol = s2.out.length := ⟨_, rfl⟩
    rw [← hol] at c1
    have HOL := Lib.hid hol
    have HM4 := Lib.hid (And.intro hm4 (Kept.trans HM3.out.2 hk4))
    have hr := HR2.out
    rw [← hol] at hr
    -- from the room on
    have HT := Lib.hid (fun (s3 : St) (w4 : World) (hr : res = if (roomS most len s3).e ≠ 0 then roomS most len s3 else { s2 with out := copyN away len s2.out }) (h3 : s3.e = 0 → s3 = s2) (hm : Pm w0 P R D ys most K f1 f2 s3 w4) (hk : Kept K w w4) =>
      show Calls Tryd.prog 43 #[.pointer (some ⟨P, 0, none⟩), .int .i64 len] w4 (fun e w5 => e = .returned (.tuple #[]) ∧ ∃ s4, Pm w0 P R D ys most K f1 f2 s4 w5 ∧ Kept K w w5 ∧ ((s4.e ≠ 0 ∧ res = s4) ∨ (s3.e = 0 ∧ s4.e = 0 ∧ s4 = s2 ∧ res = { s2 with out := copyN away len s2.out } ∧ ((ol + len : Nat) : Int) ≤ most))) from by
        refine (room_any hm len (by omega)).mono ?_
        rintro e w5 ⟨rfl, hm5, hk5⟩
        refine ⟨rfl, _, hm5, Kept.trans hk hk5, ?_⟩
        by_cases h0 : (roomS most len s3).e = 0
        · obtain ⟨q1, q2⟩ := roomS_stay h0
          have e3 := h3 (by rw [q1] at h0; exact h0)
          rw [if_neg (by simp [h0])] at hr
          exact Or.inr ⟨by rw [q1] at h0; exact h0, h0, q1.trans e3, hr, by rw [e3, ← HOL.out] at q2; exact q2⟩
        · rw [if_pos h0] at hr
          exact Or.inl ⟨h0, hr⟩)
    clear hm4 hk4 CS hol HR2
    -- both ways to the room
    have END := Lib.hid (fun (s4 : St) (w9 : World) (hr : res = s4) (h1 : Pm w0 P R D ys most K f1 f2 s4 w9) (h0 : Kept K w w9) => show Ends w0 P R D ys most K f1 f2 res w (.tuple #[]) (.returned (.tuple #[])) w9 from by
      rw [hr]; exact ⟨rfl, h1, h0⟩)
    by_cases hshort : ol < away
    · rw [if_pos hshort] at hr
      have u9 : decide ((ol : Int) < (away : Int)) = true := by simpa using hshort
      have CF := Lib.hid (fail_any HM4.out.1 22 (by omega))
      have HR4 := Lib.hid hr
      clear hr
      go_wp2_with fail
      refine CF.out.mono ?_
      rintro e9 w9 ⟨rfl, h9, k9⟩
      have CR := Lib.hid (HT.out (s2.fail 22) w9 HR4.out (fun h0 => absurd h0 (fail_e s2 22 (by omega))) h9 (Kept.trans HM4.out.2 k9))
      have HFE := Lib.hid (fail_e s2 22 (by omega))
      clear h9 k9 d0 d2 d3 d4 d5 df c1
      go_wp2_with fail
      refine CR.out.mono ?_
      rintro e5 w5 ⟨rfl, s4, hm5, hk5, hcase⟩
      obtain ⟨d0, d2, d3, d4, d5, df⟩ := hm5.cells
      rcases hcase with ⟨he4, hr4⟩ | ⟨he3, he4, hs4, hr4, hrm⟩
      · have u5 : (s4.e != 0) = true := by simpa using he4
        have u6 : (s4.e == 0) = false := by simpa using he4
        have u7 : decide (s4.e = 0) = false := by simpa using he4
        have X := Lib.hid (END.out s4 w5 hr4 hm5 hk5)
        clear hm5 hk5 hr4 CR
        go_wp2_with fail
        go_end0
        exact X.out
      · exact absurd he3 HFE.out
    · rw [if_neg hshort] at hr
      have u9 : decide ((ol : Int) < (away : Int)) = false := by simpa using hshort
      have u9n : decide (ol < away) = false := by simpa using hshort
      have CR := Lib.hid (HT.out s2 w4 hr (fun _ => rfl) HM4.out.1 HM4.out.2)
      clear hr d0 d2 d3 d4 d5 df
      go_wp2_with fail
      clear c1
      refine CR.out.mono ?_
      rintro e5 w5 ⟨rfl, s4, hm5, hk5, hcase⟩
      obtain ⟨d0, d2, d3, d4, d5, df⟩ := hm5.cells
      rcases hcase with ⟨he4, hr4⟩ | ⟨he3, he4, hs4, hr4, hrm⟩
      · have u5 : (s4.e != 0) = true := by simpa using he4
        have u6 : (s4.e == 0) = false := by simpa using he4
        have u7 : decide (s4.e = 0) = false := by simpa using he4
        have X := Lib.hid (END.out s4 w5 hr4 hm5 hk5)
        clear hm5 hk5 hr4 CR
        go_wp2_with fail
        go_end0
        exact X.out
      · rw [he4] at d3
        subst hs4
        have HS := Lib.hid (And.intro hm5 (And.intro hk5 (And.intro hr4 hrm)))
        have HAW := Lib.hid (HBD.out he4)
        have HSH := Lib.hid hshort
        clear hm5 hk5 hr4 CR hrm he4 he3 u9 u9n hshort wlen
        go_wp2_with fail
        go_loopw [44] (fun kv wl => ∃ (k : Nat) (out : List Nat), k ≤ len ∧ kv = .int .i64 k ∧ Pm w0 P R D ys most K f1 f2 { s4 with out := out } wl ∧ Kept K w wl ∧ res = { s4 with out := copyN away (len - k) out } ∧ out.length = ol + k) (fun kv _ => len - (intOf kv).toNat)
        case atStart => exact ⟨0, s4.out, Nat.zero_le _, rfl, HS.out.1, HS.out.2.1, HS.out.2.2.1, HOL.out.symm⟩
        case round =>
          have HBG := Lib.hid HS.out.2.2.2
          clear HS d0 d2 d3 d4 d5 df
          obtain ⟨k, out, hkl, rfl, hm, hk, hres, hln⟩ := hrel
          by_cases hlt : k < len
          · have hsh := HSH.out
            have haw1 := HAW.out
            obtain ⟨a5, p5, ho5, hpush⟩ := hm.out
            have HPU := Lib.hid hpush
            have hc5 := ho5.cell
            obtain ⟨dd0, dd2, dd3, dd4, dd5, ddf⟩ := hm.cells
            have ddf2 := ddf 1
            obtain ⟨l5, hl5⟩ : ∃ l5, l5 = out.length := ⟨_, rfl⟩
            have hbo := (bytes_of_own ho5.own hm.byte).1
            try simp only at hc5 hbo hpush
            have hi5 : l5 - away < out.length := by omega
            obtain ⟨y, hy⟩ : ∃ y, y = out.getD (l5 - away) 0 := ⟨_, rfl⟩
            have hy256 : y < 256 := by rw [hy]; exact hm.byte _ (getD_mem out _ hi5)
            obtain ⟨ix, hix⟩ : ∃ ix, ix = l5 - away := ⟨_, rfl⟩
            have hsub : (l5 : Int) - (away : Int) = (ix : Int) := by omega
            have hl5b : l5 ≤ 16777216 := by have := hm.room; simp only at this; omega
            have hwsub : IntKind.i64.wrap (ix : Int) = (ix : Int) := wrap_i64 _ (by omega) (by omega)
            have hixl : ix < l5 := by omega
            obtain ⟨bb, off, rfl, hcell⟩ := hbo.2.2 (by omega)
            have hcy := hcell ix y (by rw [hix, hy]; exact getD_some out _ hi5)
            rw [← hl5] at hc5
            rw [show len - k = (len - (k + 1)) + 1 by omega, copyN, ← hl5, ← hy] at hres
            have HRES := Lib.hid hres
            have HL5 := Lib.hid hl5
            have HK := Lib.hid hk
            have HMM := Lib.hid hm
            have HLN := Lib.hid hln
            have HBD := Lib.hid hkl
            have hw5 : w0.heap.size ≤ wr.heap.size := hm.old.size
            have WA := Lib.hid (show Below wr.heap.size wr ((wr.alloc (.cells #[.int .u8 (y : Nat)] 5)).drew) from ((Below.refl _ _).alloc (Nat.le_refl _) _).drew)
            have hPl := hm.lt
            have hca : (wr.alloc (.cells #[.int .u8 (y : Nat)] 5)).cell? ⟨P, 1, none⟩ = some (.slice (some ⟨bb, off, none⟩) l5 p5) := (World.cell?_of_block (w := wr) (Below.heap_alloc _ _ _ hPl)).trans hc5
            have OB := Lib.hid (show Bytes ((wr.alloc (.cells #[.int .u8 (y : Nat)] 5)).drew) (some ⟨wr.heap.size, 0, none⟩) 1 [y] from (one_byte wr y hy256).below ((Below.refl _ _).drew))
            have OW := Lib.hid (show ((wr.alloc (.cells #[.int .u8 (y : Nat)] 5)).drew).ownsRow w0.heap.size 5 1 (.slice (some ⟨bb, off, none⟩) l5 p5) l5 (bys out) by
              have h := ho5.own
              try simp only at h
              rw [← hl5] at h
              exact own_kept2 h (fun k e => WA.out.block k (own_lt2 h k e).2))
            have PU := Lib.hid (fun (aa : Option Addr) (cap : Nat) (w8 : World) (hown : w8.ownsRow w0.heap.size 5 1 (.slice aa (l5 + 1) cap) (l5 + 1) (bys (out ++ [y]))) (hg : ((wr.alloc (.cells #[.int .u8 (y : Nat)] 5)).drew).grownBy w8 (Value.slice (some ⟨bb, off, none⟩) l5 p5).ownBlock)
              (hat : (Value.slice aa (l5 + 1) cap).ownBlock = (Value.slice (some ⟨bb, off, none⟩) l5 p5).ownBlock ∨ (Value.slice aa (l5 + 1) cap).ownBlock = some ((wr.alloc (.cells #[.int .u8 (y : Nat)] 5)).drew).heap.size) =>
              show (w8.cell? ⟨P, 1, none⟩ = some (.slice (some ⟨bb, off, none⟩) l5 p5) ∧ w8.frozen? ⟨P, 1, none⟩ = false) ∧ Pm w0 P R D ys most K f1 f2 { s4 with out := out ++ [y] } (w8.setCell ⟨P, 1, none⟩ (.slice aa (l5 + 1) cap)) ∧ Kept K wr (w8.setCell ⟨P, 1, none⟩ (.slice aa (l5 + 1) cap)) by
              have h := HPU.out y ((wr.alloc (.cells #[.int .u8 (y : Nat)] 5)).drew) w8 aa cap ((wr.alloc (.cells #[.int .u8 (y : Nat)] 5)).drew).heap.size hy256
              try simp only at h
              rw [← hl5] at h
              exact h (by have h9 := HBG.out; omega) WA.out hown hg hat WA.out.size)
            clear hm hk ho5 hpush hl5 hres hbo hcell hy hix hi5 hln hsh haw1
            go_wp2_with fail
            go_region_law (refine step_append_text (by rfl) (.tmp 50) (.tmp 64) (by rfl) w0.heap.size l5 (.slice (some ⟨bb, off, none⟩) l5 p5) out (by rfl) OW.out (some ⟨wr.heap.size, 0, none⟩) 1 1 [y] (by rfl) OB.out (by intro e; cases e) (by omega) (by omega) (by simp; omega) ?_; intro aa cap w8 hown8 hgrow8 hat8; have q8 := (PU.out aa cap w8 hown8 hgrow8 hat8).1)
            all_goals
              have X := Lib.hid (PU.out aa cap w8 hown8 hgrow8 hat8).2
              clear hown8 hgrow8 hat8 q8 hca dd0 dd2 dd3 dd4 dd5 ddf ddf2 hc5 hcy
              generalize w8.setCell ⟨P, 1, none⟩ (.slice aa (l5 + 1) cap) = w9 at *
              go_wp2_with fail
              go_roundw
              case rel => exact ⟨k + 1, out ++ [y], hlt, by go_num, X.out.1, Kept.trans HK.out X.out.2, HRES.out, by have h1 := HLN.out; simp only [List.length_append, List.length_singleton]; omega⟩
              case measure => simp [intOf] <;> omega
          · obtain rfl : k = len := by omega
            have X := Lib.hid (END.out { s4 with out := out } wr (by rw [Nat.sub_self] at hres; exact hres) hm hk)
            clear hm hk hres
            go_wp2_with fail
            go_end0
            exact X.out
end Go.Proofs.YtpmoknnhgginjaaDoor.Pr

/- The program's symbols of a block. -/
namespace Go.Proofs.YtpmoknnhgginjaaDoor.Pr
open Go.RowKit Lzz Ref
set_option linter.unusedVariables false
variable {w0 w w2 : World} {P R D : Nat} {ys : List Nat} {most : Int} {K : Nat → Prop} {f1 f2 : Value} {s : St}

theorem fail_bad (s : St) (e : Int) (h : s.e ≠ 0) : s.fail e = s := by unfold St.fail; rw [if_neg h]
theorem roomS_bad (most : Int) (n : Nat) (s : St) (h : s.e ≠ 0) : roomS most n s = s := by
  unfold roomS
  split
  · exact fail_bad s 24 h
  · rfl
theorem copyEnd_bad (most : Int) (len d : Nat) (s : St) (h : s.e ≠ 0) : copyEnd most len (d, s) = s := by
  have e : (if s.out.length < d then s.fail 22 else s) = s := by
    split
    · exact fail_bad s 22 h
    · rfl
  unfold copyEnd
  simp only [e, roomS_bad most len s h]
  rw [if_pos h]
theorem copyEnd_good (most : Int) (len d : Nat) (s : St) (h : s.e = 0) : copyEnd most len (d, s) = copyLast most len d s := by
  unfold copyEnd copyLast
  simp only
  by_cases h1 : s.out.length < d
  · rw [if_pos h1, if_pos h1, roomS_bad _ _ _ (fail_e s 22 (by omega)), if_pos (fail_e s 22 (by omega))]
  · rw [if_neg h1, if_neg h1]
    unfold roomS
    by_cases h2 : most < ((s.out.length + len : Nat) : Int)
    · rw [if_pos h2, if_pos h2, if_pos (fail_e s 24 (by omega))]
    · rw [if_neg h2, if_neg h2, if_neg (by simp [h])]
/-- The program's copy is the document's. -/
theorem copyP_is (ys : List Nat) (most : Int) (zs : List Int) (sy : Nat) (s : St) (h : s.e = 0) : copyP ys most zs sy s = copyS ys most (cdOf zs) sy s := by
  unfold copyP copyS
  by_cases h1 : 285 < sy
  · rw [if_pos h1, if_pos h1]
  · rw [if_neg h1, if_neg h1, num_good _ _ _ h]
    generalize Ref.get ys (lengthP (sy - 257)).2 s = g1
    obtain ⟨b1, s1⟩ := g1
    generalize (lengthP (sy - 257)).1 = base
    simp only
    by_cases h2 : s1.e = 0
    · rw [if_neg (by simp [h2]), psym_of _ _ _ h2]
      have hp := sym_pos ys (cdOf zs) s1
      generalize sym ys (cdOf zs) s1 = t at *
      obtain ⟨t, s2⟩ := t
      simp only at hp ⊢
      unfold copyFar
      simp only
      by_cases h3 : s2.e = 0
      · rw [if_neg (by simp [h3]), if_neg (by simp [h3])]
        unfold distT
        simp only
        rw [if_neg (by omega)]
        by_cases h4 : 29 < t
        · rw [if_pos h4, if_pos h4]
          exact copyEnd_bad _ _ _ _ (fail_e s2 25 (by omega))
        · rw [if_neg h4, if_neg h4, num_good _ _ _ h3]
          generalize Ref.get ys (distP t.toNat).2 s2 = g2
          obtain ⟨b2, s3⟩ := g2
          simp only
          by_cases h5 : s3.e = 0
          · rw [if_neg (by simp [h5])]
            exact copyEnd_good _ _ _ _ h5
          · rw [if_pos h5]
            exact copyEnd_bad _ _ _ _ h5
      · rw [if_pos h3, if_pos h3]
        unfold distT
        simp only [if_true]
        exact copyEnd_bad _ _ _ _ h3
    · rw [if_pos h2]
      unfold psym
      rw [if_pos h2]
      unfold distT
      simp only [if_true]
      exact copyEnd_bad _ _ _ _ h2
theorem litS_is (most : Int) (y : Nat) (s : St) (h : s.e = 0) : litS most y s = if most < ((s.out.length + 1 : Nat) : Int) then s.fail 24 else { s with out := s.out ++ [y] } := by
  unfold litS roomS
  by_cases h2 : most < ((s.out.length + 1 : Nat) : Int)
  · rw [if_pos h2, if_pos h2, if_pos (fail_e s 24 (by omega))]
  · rw [if_neg h2, if_neg h2, if_neg (by simp [h])]
/-- What a round of a block's symbols leaves. -/
theorem blockS_stop (ys : List Nat) (most : Int) (ld dd : Cd) (f : Nat) (s : St) (h : s.e ≠ 0) : blockS ys most ld dd f s = s := by
  cases f with
  | zero => rfl
  | succ f => rw [blockS, if_pos h]
end Go.Proofs.YtpmoknnhgginjaaDoor.Pr

/- The fixed codes' lengths; decoders that a call makes. -/
namespace Go.Proofs.YtpmoknnhgginjaaDoor.Pr
open Go.RowKit Lzz Ref
set_option linter.unusedVariables false
variable {w0 w w2 : World} {P R D : Nat} {ys : List Nat} {most : Int} {K : Nat → Prop} {f1 f2 : Value} {s : St}

def fixL : List Int := (List.range 288).map fun s => if s < 144 then 8 else if s < 256 then 9 else if s < 280 then 7 else 8
def fixD : List Int := List.replicate 32 5
/-- Beside what is kept, what was made. -/
def Made (K : Nat → Prop) (b e k : Nat) : Prop := K k ∨ (b ≤ k ∧ k < e)
theorem Pm.made (h : Pm w0 P R D ys most K f1 f2 s w) (hb : Below w.heap.size w w2) : Pm w0 P R D ys most (Made K w.heap.size w2.heap.size) f1 f2 s w2 ∧ Kept K w w2 := by
  have hm := h.later hb
  have hP := h.lt
  have hR := h.rd.lt
  obtain ⟨aa, cap, h1, h2, h3, h4⟩ := h.blk
  refine ⟨⟨⟨aa, cap, (hb.block P hP).trans h1, own_kept2 h2 (fun g e => hb.block g (own_lt2 h2 g e).2), h3, ?_⟩, h.at_, hm.1.rd, h.ne, ?_, h.byte, h.err, hm.1.old, h.room⟩, hm.2⟩
  · rintro k ((hk | hk) | rfl | rfl) e
    · exact h4 k (Or.inl hk) e
    · have := (own_lt2 h2 k e).2; omega
    · exact h4 _ (Or.inr (Or.inl rfl)) e
    · exact h4 _ (Or.inr (Or.inr rfl)) e
  · rintro k (hk | hk)
    · obtain ⟨q1, q2, q3, q4⟩ := h.apart k hk
      exact ⟨q1, q2, q3, Nat.lt_of_lt_of_le q4 hb.size⟩
    · exact ⟨by omega, by omega, by omega, hk.2⟩
/-- A decoder that is new. -/
theorem dec_new {w w' : World} {B D : Nat} {l c : Nat → Nat} {zs : List Int} (hB : w.heap.size ≤ B) (hT : Hu.TF zs (Hu.codesZ zs) l c) (hd : Hu.DecT w' B D l c zs.length) (hz : zs.length ≤ 300) (K : Nat → Prop) : DecIn (Made K w.heap.size w'.heap.size) w' (.pointer (some ⟨D, 0, none⟩)) zs := by
  obtain ⟨v, ps, cs, h1, h2, h3, h4⟩ := hd
  exact ⟨D, l, c, B, v, ps, cs, rfl, hT, h1, h2, h3, h4, hz, Or.inr ⟨Nat.le_trans hB h1.at_, h1.lt⟩, fun g hg => Or.inr ⟨Nat.le_trans hB (Hu.own_lt2 h1.own g hg).1, (Hu.own_lt2 h1.own g hg).2⟩⟩
theorem may_len {zs : List Int} (h : Hu.mayCode zs = true) : zs.length ≤ 300 := by
  unfold Hu.mayCode Hu.lensOk at h
  simp only [Bool.and_eq_true, decide_eq_true_eq] at h
  exact h.1.1
theorem Pm.weaker {K' : Nat → Prop} (h : Pm w0 P R D ys most K f1 f2 s w) (hk : ∀ k, K' k → K k) : Pm w0 P R D ys most K' f1 f2 s w := by
  obtain ⟨aa, cap, h1, h2, h3, h4⟩ := h.blk
  exact ⟨⟨aa, cap, h1, h2, h3, fun k hk' => h4 k (hk'.imp_left (hk k))⟩, h.at_, h.rd, h.ne, fun k h' => h.apart k (hk k h'), h.byte, h.err, h.old, h.room⟩
end Go.Proofs.YtpmoknnhgginjaaDoor.Pr

/- The walk of the program's symbols of a block. -/
namespace Go.Proofs.YtpmoknnhgginjaaDoor.Pr
open Go.RowKit Lzz Ref
set_option linter.unusedVariables false
variable {w0 w w2 : World} {P R D : Nat} {ys : List Nat} {most : Int} {K : Nat → Prop} {f1 f2 : Value} {s : St}

theorem Exit.jump_mono {l : Nat} {J J' : Act → World → Prop} {Q : Exit → Act → World → Prop} (h : ∀ a w, J a w → J' a w) : ∀ e a w, Exit.jump l J Q e a w → Exit.jump l J' Q e a w := by
  intro e a w hq
  cases e with
  | goto l' => exact ⟨hq.1, h a w hq.2⟩
  | _ => exact hq
theorem wp_scope_lab {rest : Code} {Q : Exit → Act → World → Prop} {a : Act} {w : World} (l : Nat) (J : Act → World → Prop) (μ : Act → World → Nat) (hJ : J a w)
    (pass : ∀ a w, J a w → rest.wp Tryd.prog (Exit.jump l (fun a' w' => J a' w' ∧ μ a' w' < μ a w) Q) a w) : (Code.scope ((Code.label l).seq rest)).wp Tryd.prog Q a w :=
  wp_scope_jumps l J μ (rest := Code.skip.seq rest) (by simp [findLabel]) (wp_seq (wp_label (Code.wp_mono (Exit.jump_mono fun _ _ h => h.1) (pass a w hJ)))) (fun a w h => wp_seq (wp_skip (pass a w h)))
set_option maxRecDepth 100000 in
set_option maxHeartbeats 6400000 in
theorem symbols_any (h : Pm w0 P R D ys most K f1 f2 s w) (h0 : s.e = 0) (v1 v2 : Value) (lz dz : List Int) (hl : DecIn K w v1 lz) (hd : DecIn K w v2 dz) (f : Nat) (hf : 8 * ys.length + 1 ≤ f + s.at_) :
    Calls Tryd.prog 33 #[.pointer (some ⟨P, 0, none⟩), .agg #[v1, v2]] w (Ends w0 P R D ys most K f1 f2 (blockS ys most (cdOf lz) (cdOf dz) f s) w (.tuple #[])) := by
  obtain ⟨W, hW⟩ : ∃ W, W = w.alloc (.cells #[v1, v2] 55) := ⟨_, rfl⟩
  have hb : Below w.heap.size w W := by rw [hW]; exact (Below.refl _ _).alloc (Nat.le_refl _) _
  obtain ⟨B, hB⟩ : ∃ B, B = w.heap.size := ⟨_, rfl⟩
  have hBX : W.heap[B]? = some (.cells #[v1, v2] 55 (0, 0)) := by rw [hW, hB]; exact heap_alloc_new _ _
  have hBl : B < W.heap.size := lt_of_block hBX
  have hm := h.made hb
  obtain ⟨K2, hK2⟩ : ∃ K2, K2 = Made K w.heap.size W.heap.size := ⟨_, rfl⟩
  rw [← hK2] at hm
  have kB : K2 B := by rw [hK2]; exact Or.inr ⟨by omega, hBl⟩
  have kK : ∀ k, K k → K2 k := fun k hk => by rw [hK2]; exact Or.inl hk
  have hl2 := (hl.keep hm.2).weaker kK
  have hd2 := (hd.keep hm.2).weaker kK
  have HH := Lib.hid (And.intro hm.1 (And.intro h0 hf))
  have HKW := Lib.hid hm.2
  have HDC := Lib.hid (And.intro hl2 hd2)
  have HB := Lib.hid (And.intro hBX kB)
  have HKK := Lib.hid kK
  have HRES := Lib.hid (show blockS ys most (cdOf lz) (cdOf dz) f s = blockS ys most (cdOf lz) (cdOf dz) f s from rfl)
  generalize hres : blockS ys most (cdOf lz) (cdOf dz) f s = res at *
  have HR := Lib.hid hres
  have END := Lib.hid (fun (s1 : St) (w9 : World) (hr : res = s1) (h1 : Pm w0 P R D ys most K2 f1 f2 s1 w9) (h2 : Kept K2 W w9) => show Ends w0 P R D ys most K f1 f2 res w (.tuple #[]) (.returned (.tuple #[])) w9 from by
    rw [hr]; exact ⟨rfl, h1.weaker HKK.out, Kept.trans HKW.out (fun k hk => h2 k (HKK.out k hk))⟩)
  clear h h0 hf hl hd hl2 hd2 hm hb hBX hBl kB kK hK2 hres HRES
  go_enter Tryd.func33, Tryd.ntmps33
  go_wp2_with fail
  rw [← hB, ← hW]
  clear hB hW
  refine wp_scope_lab 0 (fun a' w' => ∃ (u4 u5 u6 u7 u8 u9 u10 u11 u12 u13 u14 u15 u16 u17 u18 u19 u20 u21 u22 u23 u24 u25 u26 u27 u28 u29 u30 u31 : Value), (∃ (g : Nat) (s' : St), Pm w0 P R D ys most K2 f1 f2 s' w' ∧ Kept K2 W w' ∧ s'.e = 0 ∧ res = blockS ys most (cdOf lz) (cdOf dz) g s' ∧ 8 * ys.length + 1 ≤ g + s'.at_) ∧ a' = { tmps := #[.pointer (some ⟨P, 0, none⟩), .agg #[v1, v2], undef, .pointer (some ⟨B, 0, none⟩), u4, u5, u6, u7, u8, u9, u10, u11, u12, u13, u14, u15, u16, u17, u18, u19, u20, u21, u22, u23, u24, u25, u26, u27, u28, u29, u30, u31], defers := [] }) (fun _ w' => leftR R ys.length w') ?start ?pass
  case start => exact ⟨_, _, _, _, _, _, _, _, _, _, _, _, _, _, _, _, _, _, _, _, _, _, _, _, _, _, _, _, ⟨f, s, HH.out.1, Kept.refl _ _, HH.out.2.1, HR.out.symm, HH.out.2.2⟩, rfl⟩
  case pass =>
    rintro a' wr ⟨u4, u5, u6, u7, u8, u9, u10, u11, u12, u13, u14, u15, u16, u17, u18, u19, u20, u21, u22, u23, u24, u25, u26, u27, u28, u29, u30, u31, ⟨g, s', hm, hk, he0, hres, hg⟩, rfl⟩
    have hfar := hm.far
    obtain ⟨g', rfl⟩ : ∃ g', g = g' + 1 := ⟨g - 1, by omega⟩
    rw [blockS, if_neg (by simp [he0])] at hres
    have hlf := hm.leftR
    have CS := Lib.hid (symbol_any hm v1 lz ((HDC.out.1).keep hk))
    rw [psym_of _ _ _ he0] at CS
    have hp := sym_pos ys (cdOf lz) s'
    have hle := sym_le ys (cdOf lz) s'
    have hat := sym_at ys (cdOf lz) s'
    have hone := show Ref.one ys most (cdOf lz) (cdOf dz) s' = if (sym ys (cdOf lz) s').2.e ≠ 0 then (false, (sym ys (cdOf lz) s').2)
      else if (sym ys (cdOf lz) s').1 = 256 then (false, (sym ys (cdOf lz) s').2)
      else if 256 < (sym ys (cdOf lz) s').1 then (true, copyS ys most (cdOf dz) (sym ys (cdOf lz) s').1.toNat (sym ys (cdOf lz) s').2)
      else if most < (((sym ys (cdOf lz) s').2.out.length + 1 : Nat) : Int) then (false, (sym ys (cdOf lz) s').2.fail 24)
      else (true, { (sym ys (cdOf lz) s').2 with out := (sym ys (cdOf lz) s').2.out ++ [(sym ys (cdOf lz) s').1.toNat] }) from rfl
    have hlen : ((cdOf lz).L.length : Int) ≤ 300 := by
      obtain ⟨G, l, c, B9, dv, ps, cs, e1, e2, e3, e4, e5, e6, e7, e8, e9⟩ := HDC.out.1
      show (lz.length : Int) ≤ 300
      omega
    generalize Ref.one ys most (cdOf lz) (cdOf dz) s' = on at *
    generalize sym ys (cdOf lz) s' = t at *
    obtain ⟨t, s1⟩ := t
    obtain ⟨ob, os⟩ := on
    simp only at hp hle hat hone hres
    have HONE := Lib.hid hone
    have HRS := Lib.hid hres
    have HM := Lib.hid (And.intro hk (And.intro hlf (And.intro hat (And.intro hg hfar))))
    have x0 : wr.cell? ⟨B, 0, none⟩ = some v1 := by simp [World.cell?, (hk B HB.out.2).trans HB.out.1]
    clear hone hres hm hk hlf hat hg hfar he0
    by_cases he : s1.e = 0
    · rw [if_neg (by simp [he])] at CS
      go_wp2_with fail
      refine CS.out.mono ?_
      rintro e3 w3 ⟨rfl, hm3, hk3⟩
      try simp only at hm3
      have hk13 := Kept.trans HM.out.1 hk3
      have hbx := (hk13 B HB.out.2).trans HB.out.1
      have y1 : w3.cell? ⟨B, 1, none⟩ = some v2 := by simp [World.cell?, hbx]
      have hone := HONE.out
      rw [if_neg (by simp [he])] at hone
      have HM3 := Lib.hid (And.intro hm3 hk13)
      have HAT := Lib.hid (HM.out.2.2.1 he)
      clear hm3 hk3 hk13 hbx CS x0
      obtain ⟨n, rfl⟩ : ∃ n : Nat, t = (n : Int) := ⟨t.toNat, by omega⟩
      have m1 : ((n : Int) == -1) = false := by simp
      have m2 : decide ((n : Int) = -1) = false := by simp
      by_cases hend : n = 256
      · subst hend
        rw [if_pos (by simp)] at hone
        have X := Lib.hid (END.out s1 w3 (by
          have h := HRS.out
          simp only [Prod.mk.injEq] at hone
          rw [hone.1, hone.2] at h
          simpa using h) HM3.out.1 HM3.out.2)
        clear hone
        go_wp2_with fail
        simp only [Exit.jump]
        go_end0
        exact X.out
      · rw [if_neg (by omega)] at hone
        have m3 : ((n : Int) == 256) = false := by simp; omega
        by_cases hbig : 256 < n
        · rw [if_pos (by omega)] at hone
          have m4 : decide ((n : Int) < 256) = false := by simp; omega
          have CC := Lib.hid (copy_any HM3.out.1 n ⟨by omega, by omega⟩ v2 dz (HDC.out.2.keep HM3.out.2))
          rw [copyP_is _ _ _ _ _ he] at CC
          have hcat := copyS_at ys most (cdOf dz) n s1
          simp only [Int.toNat_natCast] at hone
          generalize copyS ys most (cdOf dz) n s1 = s2 at *
          have HON := Lib.hid hone
          have HCA := Lib.hid hcat
          clear hone hcat hbig hend
          go_wp2_with fail
          refine CC.out.mono ?_
          rintro e4 w4 ⟨rfl, hm4, hk4⟩
          obtain ⟨c0, c2, c3, c4, c5, cf⟩ := hm4.cells
          have hlf4 := hm4.leftR
          have HM4 := Lib.hid (And.intro hm4 (And.intro (Kept.trans HM3.out.2 hk4) hlf4))
          have HRN := Lib.hid (show res = blockS ys most (cdOf lz) (cdOf dz) g' s2 from by
            have h := HRS.out
            have hone := HON.out
            simp only [Prod.mk.injEq] at hone
            rw [hone.1, hone.2] at h
            simpa using h)
          clear hm4 hk4 CC hlf4 y1
          by_cases he2 : s2.e = 0
          · rw [he2] at c3
            have HE2 := Lib.hid he2
            clear he2
            go_wp2_with fail
            go_step3
            refine ⟨rfl, ⟨_, _, _, _, _, _, _, _, _, _, _, _, _, _, _, _, _, _, _, _, _, _, _, _, _, _, _, _, ⟨g', s2, HM4.out.1, HM4.out.2.1, HE2.out, HRN.out, ?_⟩, rfl⟩, ?_⟩
            · have h1 := HCA.out HE2.out
              have h2 := HAT.out
              have h3 := HM.out.2.2.2.1
              omega
            · have h1 := HCA.out HE2.out
              have h2 := HAT.out
              have h3 := HM4.out.2.2
              have h4 := HM.out.2.1
              have h5 := HM.out.2.2.2.2
              have h6 := HM4.out.1.far
              show leftR R ys.length w4 < leftR R ys.length wr
              omega
          · have u4 : (s2.e == 0) = false := by simpa using he2
            have u5 : (s2.e != 0) = true := by simpa using he2
            have u6 : decide (s2.e = 0) = false := by simpa using he2
            have X := Lib.hid (END.out s2 w4 (by rw [HRN.out]; exact blockS_stop _ _ _ _ _ _ he2) HM4.out.1 HM4.out.2.1)
            go_wp2_with fail
            simp only [Exit.jump]
            go_end0
            exact X.out
        · rw [if_neg (by omega)] at hone
          have hn256 : n < 256 := by omega
          have m4 : decide ((n : Int) < 256) = true := by simp; omega
          have CC := Lib.hid (literal_any HM3.out.1 n hn256)
          rw [litS_is _ _ _ he] at CC
          simp only [Int.toNat_natCast] at hone
          by_cases hroom : most < ((s1.out.length + 1 : Nat) : Int)
          · rw [if_pos hroom] at CC hone
            have HON := Lib.hid (show (ob, os) = (true, s1.fail 24) ∨ ((ob, os) = (false, s1.fail 24)) from Or.inr hone)
            have X0 := Lib.hid (show res = s1.fail 24 from by
              have h := HRS.out
              simp only [Prod.mk.injEq] at hone
              rw [hone.1, hone.2] at h
              simpa using h)
            have he2 := fail_e s1 24 (by omega)
            generalize s1.fail 24 = s2 at *
            clear hone hroom hbig hend
            go_wp2_with fail
            refine CC.out.mono ?_
            rintro e4 w4 ⟨rfl, hm4, hk4⟩
            obtain ⟨c0, c2, c3, c4, c5, cf⟩ := hm4.cells
            have u4 : (s2.e == 0) = false := by simpa using he2
            have u5 : (s2.e != 0) = true := by simpa using he2
            have u6 : decide (s2.e = 0) = false := by simpa using he2
            have X := Lib.hid (END.out s2 w4 X0.out hm4 (Kept.trans HM3.out.2 hk4))
            clear hm4 hk4 CC
            go_wp2_with fail
            simp only [Exit.jump]
            go_end0
            exact X.out
          · rw [if_neg hroom] at CC hone
            obtain ⟨s2, hs2⟩ : ∃ s2, s2 = ({ s1 with out := s1.out ++ [n] } : St) := ⟨_, rfl⟩
            rw [← hs2] at CC hone
            have HON := Lib.hid hone
            have HCA := Lib.hid (show s2.e = 0 → s1.at_ ≤ s2.at_ from fun _ => by rw [hs2]; exact Nat.le_refl _)
            clear hone hs2 hbig hend hroom
            go_wp2_with fail
            refine CC.out.mono ?_
            rintro e4 w4 ⟨rfl, hm4, hk4⟩
            obtain ⟨c0, c2, c3, c4, c5, cf⟩ := hm4.cells
            have hlf4 := hm4.leftR
            have HM4 := Lib.hid (And.intro hm4 (And.intro (Kept.trans HM3.out.2 hk4) hlf4))
            have HRN := Lib.hid (show res = blockS ys most (cdOf lz) (cdOf dz) g' s2 from by
              have h := HRS.out
              have hone := HON.out
              simp only [Prod.mk.injEq] at hone
              rw [hone.1, hone.2] at h
              simpa using h)
            clear hm4 hk4 CC hlf4 y1
            by_cases he2 : s2.e = 0
            · rw [he2] at c3
              have HE2 := Lib.hid he2
              clear he2
              go_wp2_with fail
              go_step3
              refine ⟨rfl, ⟨_, _, _, _, _, _, _, _, _, _, _, _, _, _, _, _, _, _, _, _, _, _, _, _, _, _, _, _, ⟨g', s2, HM4.out.1, HM4.out.2.1, HE2.out, HRN.out, ?_⟩, rfl⟩, ?_⟩
              · have h1 := HCA.out HE2.out
                have h2 := HAT.out
                have h3 := HM.out.2.2.2.1
                omega
              · have h1 := HCA.out HE2.out
                have h2 := HAT.out
                have h3 := HM4.out.2.2
                have h4 := HM.out.2.1
                have h5 := HM.out.2.2.2.2
                have h6 := HM4.out.1.far
                show leftR R ys.length w4 < leftR R ys.length wr
                omega
            · have u4 : (s2.e == 0) = false := by simpa using he2
              have u5 : (s2.e != 0) = true := by simpa using he2
              have u6 : decide (s2.e = 0) = false := by simpa using he2
              have X := Lib.hid (END.out s2 w4 (by rw [HRN.out]; exact blockS_stop _ _ _ _ _ _ he2) HM4.out.1 HM4.out.2.1)
              go_wp2_with fail
              simp only [Exit.jump]
              go_end0
              exact X.out
    · rw [if_pos he] at CS
      have X0 := Lib.hid (show res = s1 from by
        have h := HRS.out
        have hone := HONE.out
        rw [if_pos he] at hone
        simp only [Prod.mk.injEq] at hone
        rw [hone.1, hone.2] at h
        simpa using h)
      go_wp2_with fail
      refine CS.out.mono ?_
      rintro e3 w3 ⟨rfl, hm3, hk3⟩
      have X := Lib.hid (END.out s1 w3 X0.out hm3 (Kept.trans HM.out.1 hk3))
      clear hm3 hk3 CS x0
      go_wp2_with fail
      simp only [Exit.jump]
      go_end0
      exact X.out
end Go.Proofs.YtpmoknnhgginjaaDoor.Pr

/- The program's read: the decoders of lengths that aren't too many. -/
namespace Go.Proofs.YtpmoknnhgginjaaDoor.Pr
open Go.RowKit Lzz Ref
set_option linter.unusedVariables false
variable {w0 w w2 : World} {P R D : Nat} {ys : List Nat} {most : Int} {K : Nat → Prop} {f1 f2 : Value} {s : St}

/-- A decoder among the blocks from b on below e. -/
def DecNew (b e : Nat) (w : World) (v : Value) (zs : List Int) : Prop := DecIn (fun k => b ≤ k ∧ k < e) w v zs
theorem DecNew.later {b e b' e' : Nat} {v : Value} {zs : List Int} (h : DecNew b e w v zs) (hk : ∀ k, b ≤ k → k < e → w2.heap[k]? = w.heap[k]?) (hb : b' ≤ b) (he : e ≤ e') : DecNew b' e' w2 v zs :=
  (DecIn.keep h (fun k hk' => hk k hk'.1 hk'.2)).weaker (fun k h => ⟨by omega, by omega⟩)
theorem DecNew.made {b e : Nat} {v : Value} {zs : List Int} (h : DecNew b e w v zs) (K : Nat → Prop) : DecIn (Made K b e) w v zs := DecIn.weaker h (fun k hk => Or.inr hk)
theorem DecNew.ptr {b e : Nat} {v : Value} {zs : List Int} (h : DecNew b e w v zs) : ∃ G, v = .pointer (some ⟨G, 0, none⟩) := by
  obtain ⟨G, l, c, B, dv, ps, cs, h1, -⟩ := h
  exact ⟨G, h1⟩
theorem newDecoder_any (w : World) (a : Option Addr) (n c : Nat) (zs : List Int) (h1 : Hu.Ints w a n zs) (m1 : Hu.mayCode zs = true) :
    Calls Tryd.prog 56 #[.slice a n c] w fun e w' => ∃ G, e = .returned (.tuple #[.pointer (some ⟨G, 0, none⟩), .bool true]) ∧ DecNew w.heap.size w'.heap.size w' (.pointer (some ⟨G, 0, none⟩)) zs ∧ Below w.heap.size w w' := by
  have hn : n ≤ 16777216 := by have := may_len m1; have := h1.1; omega
  refine (Hu.new_any w a n c zs h1 hn).mono ?_
  intro e w' h
  unfold Hu.NewSay at h
  rw [if_pos m1] at h
  obtain ⟨B, D, l, cd, hB, rfl, hT, hd, hb⟩ := h
  exact ⟨D, rfl, (dec_new hB hT hd (may_len m1) (fun _ => False)).weaker (fun k hk => hk.elim (fun h => h.elim) id), hb⟩

set_option maxRecDepth 100000 in
set_option maxHeartbeats 1600000 in
/-- The codes of lengths that aren't too many. -/
theorem read_any (w : World) (a : Option Addr) (n c : Nat) (zs : List Int) (h1 : Hu.Ints w a n zs) (m1 : Hu.mayCode zs = true) (b : Option Addr) (m d : Nat) (xs : List Int) (h2 : Hu.Ints w b m xs) (m2 : Hu.mayCode xs = true) :
    Calls Tryd.prog 47 #[.agg #[.slice a n c, .slice b m d]] w fun e w' => ∃ v1 v2, e = .returned (.agg #[v1, v2]) ∧ Below w.heap.size w w' ∧ DecNew w.heap.size w'.heap.size w' v1 zs ∧ DecNew w.heap.size w'.heap.size w' v2 xs := by
  obtain ⟨W1, hW1⟩ : ∃ W1, W1 = w.alloc (.cells #[.slice a n c, .slice b m d] 78) := ⟨_, rfl⟩
  obtain ⟨W, hW⟩ : ∃ W, W = W1.alloc (.cells #[.pointer none, .pointer none] 55) := ⟨_, rfl⟩
  have b1 : Below w.heap.size w W1 := by rw [hW1]; exact (Below.refl _ _).alloc (Nat.le_refl _) _
  have s1 : W1.heap.size = w.heap.size + 1 := by rw [hW1]; exact Array.size_push _
  have b2 : Below W1.heap.size W1 W := by rw [hW]; exact (Below.refl _ _).alloc (Nat.le_refl _) _
  have s2 : W.heap.size = w.heap.size + 2 := by rw [hW]; exact (Array.size_push _).trans (by omega)
  have bW : Below w.heap.size w W := Hu.below_more b1 b2 (Nat.le_refl _)
  obtain ⟨g1, hg1⟩ : ∃ g1, g1 = w.heap.size := ⟨_, rfl⟩
  obtain ⟨g2, hg2⟩ : ∃ g2, g2 = w.heap.size + 1 := ⟨_, rfl⟩
  have x1 : W1.heap[g1]? = some (.cells #[.slice a n c, .slice b m d] 78 (0, 0)) := by rw [hW1, hg1]; exact heap_alloc_new _ _
  have x1W : W.heap[g1]? = some (.cells #[.slice a n c, .slice b m d] 78 (0, 0)) := (b2.block _ (by omega)).trans x1
  have x2W : W.heap[g2]? = some (.cells #[.pointer none, .pointer none] 55 (0, 0)) := by rw [hW, hg2, ← s1]; exact heap_alloc_new _ _
  have C1 := Lib.hid (newDecoder_any W a n c zs (h1.below bW) m1)
  have y0 : W.cell? ⟨g1, 0, none⟩ = some (.slice a n c) := by simp [World.cell?, x1W]
  have XW := Lib.hid (And.intro x1W x2W)
  have H2 := Lib.hid (h2.below bW)
  have BW := Lib.hid bW
  have S2 := Lib.hid (show W.heap.size = w.heap.size + 2 ∧ g1 = w.heap.size ∧ g2 = w.heap.size + 1 from ⟨s2, hg1, hg2⟩)
  clear b1 s1 b2 s2 bW x1 x1W x2W h1 h2
  go_enter Tryd.func47, Tryd.ntmps47
  go_wp2_with fail
  rw [← hW1, ← hW, ← hg2, ← hg1]
  clear hW1 hW hg1 hg2
  go_wp2_with fail
  refine C1.out.mono ?_
  rintro e3 w3 ⟨G1, rfl, hd3, hb3⟩
  have hx1 := (hb3.block g1 (by have := S2.out; omega)).trans XW.out.1
  have hx2 := (hb3.block g2 (by have := S2.out; omega)).trans XW.out.2
  have y1 : w3.cell? ⟨g1, 1, none⟩ = some (.slice b m d) := by simp [World.cell?, hx1]
  have C2 := Lib.hid (newDecoder_any w3 b m d xs (H2.out.below hb3) m2)
  have HX2 := Lib.hid hx2
  have HD3 := Lib.hid (And.intro hd3 hb3)
  clear hd3 hb3 hx1 hx2 C1 y0
  go_wp2_with fail
  refine C2.out.mono ?_
  rintro e4 w4 ⟨G2, rfl, hd4, hb4⟩
  have hx2 := (hb4.block g2 (by have h1 := S2.out; have h2 := HD3.out.2.size; omega)).trans HX2.out
  have hf : ∀ i, w4.frozen? ⟨g2, i, none⟩ = false := fun i => by simp [World.frozen?, hx2]
  have z0 : w4.cell? ⟨g2, 0, none⟩ = some (.pointer none) := by simp [World.cell?, hx2]
  have z1 : w4.cell? ⟨g2, 1, none⟩ = some (.pointer none) := by simp [World.cell?, hx2]
  have HG := Lib.hid (show ((w4.setCell ⟨g2, 0, none⟩ (.pointer (some ⟨G1, 0, none⟩))).setCell ⟨g2, 1, none⟩ (.pointer (some ⟨G2, 0, none⟩))).heap[g2]? = some (.cells #[.pointer (some ⟨G1, 0, none⟩), .pointer (some ⟨G2, 0, none⟩)] 55 (0, 0)) from by
    rw [block_set (block_set hx2 _)]; rfl)
  have FIN := Lib.hid (show ∀ W9, W9 = ((w4.setCell ⟨g2, 0, none⟩ (.pointer (some ⟨G1, 0, none⟩))).setCell ⟨g2, 1, none⟩ (.pointer (some ⟨G2, 0, none⟩))) → ∃ v1 v2, Ending.returned (.agg #[.pointer (some ⟨G1, 0, none⟩), .pointer (some ⟨G2, 0, none⟩)]) = .returned (.agg #[v1, v2]) ∧ Below w.heap.size w W9 ∧ DecNew w.heap.size W9.heap.size W9 v1 zs ∧ DecNew w.heap.size W9.heap.size W9 v2 xs from by
    rintro W9 rfl
    have e1 := S2.out
    have hsz : ((w4.setCell ⟨g2, 0, none⟩ (.pointer (some ⟨G1, 0, none⟩))).setCell ⟨g2, 1, none⟩ (.pointer (some ⟨G2, 0, none⟩))).heap.size = w4.heap.size := by simp [World.setCell]
    have hk : ∀ k, k ≠ g2 → ((w4.setCell ⟨g2, 0, none⟩ (.pointer (some ⟨G1, 0, none⟩))).setCell ⟨g2, 1, none⟩ (.pointer (some ⟨G2, 0, none⟩))).heap[k]? = w4.heap[k]? := fun k hk => (Below.heap_setCell _ _ _ _ hk).trans (Below.heap_setCell _ _ _ _ hk)
    have q1 := hb4.size
    have q2 := HD3.out.2.size
    refine ⟨_, _, rfl, below_set (below_set (below_more (below_more BW.out HD3.out.2 (Nat.le_refl _)) hb4 (Nat.le_refl _)) (by omega) _) (by omega) _, ?_, ?_⟩
    · exact HD3.out.1.later (fun k hk1 hk2 => (hk k (by omega)).trans (hb4.block k hk2)) (by omega) (by rw [hsz]; omega)
    · exact hd4.later (fun k hk1 hk2 => hk k (by omega)) (by omega) (by rw [hsz]; omega))
  clear hd4 hb4 hx2 C2 y1
  go_wp2_with fail
  refine bodyPost_ret (results_cell_row rfl _ _ g2 55 #[.pointer (some ⟨G1, 0, none⟩), .pointer (some ⟨G2, 0, none⟩)] (0, 0) _ rfl ?hg Tryd.underlying55 rfl (by kernel_rfl)) rfl ?_
  case hg => exact HG.out
  exact FIN.out _ rfl
end Go.Proofs.YtpmoknnhgginjaaDoor.Pr

/- The program's fixed lengths. -/
namespace Go.Proofs.YtpmoknnhgginjaaDoor.Pr
open Go.RowKit Lzz Ref
set_option linter.unusedVariables false
variable {w0 w w2 : World} {P R D : Nat} {ys : List Nat} {most : Int} {K : Nat → Prop} {f1 f2 : Value} {s : St}

theorem run_make_ints (w : World) (n : Nat) (hn : n ≤ 100000) : (Instr.makeSlice 35 (.int .i64 (n : Int)) (.int .i64 (n : Int))).run Tryd.prog w = .ok (.slice (some ⟨w.heap.size, 0, none⟩) n n) (w.alloc (.cells (madeCells #[.int .i64 0] n) 3)) := by
  obtain ⟨i, hi, hzz⟩ := Option.map_eq_some_iff.1 Hu.info3
  simp only [Prod.mk.injEq] at hzz
  obtain ⟨hz, hs, hb⟩ := hzz
  have hr := run_make (P := Tryd.prog) w 35 3 i _ Tryd.underlying35 hi hz .i64 .i64 (n : Int) (n : Int) (by omega) (Int.le_refl _) (by rw [hb]; omega) (by omega)
  rw [hr, hs]
  simp [Value.cells]
def lenL (s : Nat) : Int := if s < 144 then 8 else if s < 256 then 9 else if s < 280 then 7 else 8
/-- Two rows of lengths under way. -/
structure FL (w : World) (g B L M : Nat) (h1 h2 : Nat → Int) (W : World) : Prop where
  below : Below w.heap.size w W
  out : W.heap[g]? = some (.cells #[.slice none 0 0, .slice none 0 0] 78 (0, 0))
  box : W.heap[B]? = some (.cells #[.slice (some ⟨L, 0, none⟩) 288 288, .slice (some ⟨M, 0, none⟩) 32 32] 78 (0, 0))
  r1 : Hu.Row W L 288 h1
  r2 : Hu.Row W M 32 h2
  at_ : w.heap.size ≤ L ∧ w.heap.size ≤ M ∧ w.heap.size ≤ g ∧ w.heap.size ≤ B
  ne : L ≠ g ∧ L ≠ B ∧ M ≠ g ∧ M ≠ B ∧ L ≠ M ∧ B ≠ g
theorem FL.set1 {w W : World} {g B L M : Nat} {h1 h2 h1' : Nat → Int} (h : FL w g B L M h1 h2 W) (i : Nat) (hi : i < 288) (z : Int) (hf : ∀ j, j < 288 → h1' j = if j = i then z else h1 j) : FL w g B L M h1' h2 (W.setCell ⟨L, i, none⟩ (.int .i64 z)) := by
  obtain ⟨n1, n2, n3, n4, n5, n6⟩ := h.ne
  exact ⟨below_set h.below h.at_.1 _, (Below.heap_setCell _ _ _ _ (fun e => n1 e.symm)).trans h.out, (Below.heap_setCell _ _ _ _ (fun e => n2 e.symm)).trans h.box, h.r1.set hi hf, h.r2.later (Below.heap_setCell _ _ _ _ (fun e => n5 e.symm)), h.at_, h.ne⟩
theorem FL.set2 {w W : World} {g B L M : Nat} {h1 h2 h2' : Nat → Int} (h : FL w g B L M h1 h2 W) (i : Nat) (hi : i < 32) (z : Int) (hf : ∀ j, j < 32 → h2' j = if j = i then z else h2 j) : FL w g B L M h1 h2' (W.setCell ⟨M, i, none⟩ (.int .i64 z)) := by
  obtain ⟨n1, n2, n3, n4, n5, n6⟩ := h.ne
  exact ⟨below_set h.below h.at_.2.1 _, (Below.heap_setCell _ _ _ _ (fun e => n3 e.symm)).trans h.out, (Below.heap_setCell _ _ _ _ (fun e => n4 e.symm)).trans h.box, h.r1.later (Below.heap_setCell _ _ _ _ n5), h.r2.set hi hf, h.at_, h.ne⟩
theorem FL.cells {w W : World} {g B L M : Nat} {h1 h2 : Nat → Int} (h : FL w g B L M h1 h2 W) : W.cell? ⟨B, 0, none⟩ = some (.slice (some ⟨L, 0, none⟩) 288 288) ∧ W.cell? ⟨B, 1, none⟩ = some (.slice (some ⟨M, 0, none⟩) 32 32) := by
  refine ⟨?_, ?_⟩ <;> simp [World.cell?, h.box]
theorem FL.fin {w W : World} {g B L M : Nat} (h : FL w g B L M lenL (fun _ => 5) W) : ((W.setCell ⟨g, 0, none⟩ (.slice (some ⟨L, 0, none⟩) 288 288)).setCell ⟨g, 1, none⟩ (.slice (some ⟨M, 0, none⟩) 32 32)).heap[g]? = some (.cells #[.slice (some ⟨L, 0, none⟩) 288 288, .slice (some ⟨M, 0, none⟩) 32 32] 78 (0, 0)) ∧
    Below w.heap.size w ((W.setCell ⟨g, 0, none⟩ (.slice (some ⟨L, 0, none⟩) 288 288)).setCell ⟨g, 1, none⟩ (.slice (some ⟨M, 0, none⟩) 32 32)) ∧
    Hu.Ints ((W.setCell ⟨g, 0, none⟩ (.slice (some ⟨L, 0, none⟩) 288 288)).setCell ⟨g, 1, none⟩ (.slice (some ⟨M, 0, none⟩) 32 32)) (some ⟨L, 0, none⟩) 288 fixL ∧
    Hu.Ints ((W.setCell ⟨g, 0, none⟩ (.slice (some ⟨L, 0, none⟩) 288 288)).setCell ⟨g, 1, none⟩ (.slice (some ⟨M, 0, none⟩) 32 32)) (some ⟨M, 0, none⟩) 32 fixD := by
  obtain ⟨n1, n2, n3, n4, n5, n6⟩ := h.ne
  have hk : ∀ k, k ≠ g → ((W.setCell ⟨g, 0, none⟩ (.slice (some ⟨L, 0, none⟩) 288 288)).setCell ⟨g, 1, none⟩ (.slice (some ⟨M, 0, none⟩) 32 32)).heap[k]? = W.heap[k]? := fun k hk => (Below.heap_setCell _ _ _ _ hk).trans (Below.heap_setCell _ _ _ _ hk)
  refine ⟨by rw [block_set (block_set h.out _)]; rfl, below_set (below_set h.below h.at_.2.2.1 _) h.at_.2.2.1 _, (h.r1.later (hk L n1)).ints (by simp [fixL]) ?_ ?_, (h.r2.later (hk M n3)).ints (by simp [fixD]) ?_ ?_⟩
  · intro z hz
    simp only [fixL, List.mem_map] at hz
    obtain ⟨s, _, rfl⟩ := hz
    split
    · omega
    · split
      · omega
      · split <;> omega
  · intro j hj
    simp only [fixL, List.getElem?_map, List.getElem?_range hj, Option.map_some, lenL]
  · intro z hz
    have := List.eq_of_mem_replicate hz
    omega
  · intro j hj
    simp only [fixD, List.getElem?_replicate, hj, if_true]
theorem four (w : World) (o1 o2 o3 o4 : Obj) : Below w.heap.size w ((((w.alloc o1).alloc o2).alloc o3).alloc o4).drew ∧ ((((w.alloc o1).alloc o2).alloc o3).alloc o4).drew.heap[w.heap.size]? = some o1 ∧ ((((w.alloc o1).alloc o2).alloc o3).alloc o4).drew.heap[w.heap.size + 1]? = some o2 ∧
    ((((w.alloc o1).alloc o2).alloc o3).alloc o4).drew.heap[w.heap.size + 1 + 1]? = some o3 ∧ ((((w.alloc o1).alloc o2).alloc o3).alloc o4).drew.heap[w.heap.size + 1 + 1 + 1]? = some o4 := by
  have s1 : (w.alloc o1).heap.size = w.heap.size + 1 := Array.size_push _
  have s2 : ((w.alloc o1).alloc o2).heap.size = w.heap.size + 1 + 1 := (Array.size_push _).trans (by omega)
  have s3 : (((w.alloc o1).alloc o2).alloc o3).heap.size = w.heap.size + 1 + 1 + 1 := (Array.size_push _).trans (by omega)
  have e1 : (w.alloc o1).heap[w.heap.size]? = some o1 := heap_alloc_new _ _
  have e2 : ((w.alloc o1).alloc o2).heap[w.heap.size + 1]? = some o2 := by rw [← s1]; exact heap_alloc_new _ _
  have e3 : (((w.alloc o1).alloc o2).alloc o3).heap[w.heap.size + 1 + 1]? = some o3 := by rw [← s2]; exact heap_alloc_new _ _
  have e4 : ((((w.alloc o1).alloc o2).alloc o3).alloc o4).heap[w.heap.size + 1 + 1 + 1]? = some o4 := by rw [← s3]; exact heap_alloc_new _ _
  refine ⟨(((((Below.refl w.heap.size w).alloc (Nat.le_refl _) o1).alloc (by omega) o2).alloc (by omega) o3).alloc (by omega) o4).drew, ?_, ?_, ?_, e4⟩
  · exact (Below.heap_alloc _ _ _ (by omega)).trans ((Below.heap_alloc _ _ _ (by omega)).trans ((Below.heap_alloc _ _ _ (by omega)).trans e1))
  · exact (Below.heap_alloc _ _ _ (by omega)).trans ((Below.heap_alloc _ _ _ (by omega)).trans e2)
  · exact (Below.heap_alloc _ _ _ (by omega)).trans e3
theorem fl_start {w W : World} {g B L M : Nat} {Z1 Z2 : Array Value} (hZ : Z1 = madeCells #[Value.int .i64 0] 288 ∧ Z2 = madeCells #[Value.int .i64 0] 32) (h1 : Below w.heap.size w W) (h2 : W.heap[g]? = some (.cells #[.slice none 0 0, .slice none 0 0] 78 (0, 0)))
    (h3 : W.heap[B]? = some (.cells #[.slice (some ⟨L, 0, none⟩) 288 288, .slice (some ⟨M, 0, none⟩) 32 32] 78 (0, 0))) (h4 : W.heap[L]? = some (.cells Z1 3 (0, 0))) (h5 : W.heap[M]? = some (.cells Z2 3 (0, 0)))
    (h6 : w.heap.size ≤ L ∧ w.heap.size ≤ M ∧ w.heap.size ≤ g ∧ w.heap.size ≤ B) (h7 : L ≠ g ∧ L ≠ B ∧ M ≠ g ∧ M ≠ B ∧ L ≠ M ∧ B ≠ g) : FL w g B L M (fun _ => 0) (fun _ => 0) W := by
  obtain ⟨rfl, rfl⟩ := hZ
  exact ⟨h1, h2, h3, ⟨_, h4, by rw [size_madeCells]; exact Nat.le_refl _, fun j hj => by simp [madeCells, hj, Nat.mod_one]⟩, ⟨_, h5, by rw [size_madeCells]; exact Nat.le_refl _, fun j hj => by simp [madeCells, hj, Nat.mod_one]⟩, h6, h7⟩
set_option maxRecDepth 100000 in
set_option maxHeartbeats 3200000 in
theorem fixedLengths_any (w : World) :
    Calls Tryd.prog 48 #[] w fun e w' => ∃ a c b d, e = .returned (.agg #[.slice a 288 c, .slice b 32 d]) ∧ Below w.heap.size w w' ∧ Hu.Ints w' a 288 fixL ∧ Hu.Ints w' b 32 fixD := by
  obtain ⟨Z1, hZ1⟩ : ∃ Z1, Z1 = madeCells #[Value.int .i64 0] 288 := ⟨_, rfl⟩
  obtain ⟨Z2, hZ2⟩ : ∃ Z2, Z2 = madeCells #[Value.int .i64 0] 32 := ⟨_, rfl⟩
  have hm1 : ∀ w : World, (Instr.makeSlice 35 (.int .i64 288) (.int .i64 288)).run Tryd.prog w = .ok (.slice (some ⟨w.heap.size, 0, none⟩) 288 288) (w.alloc (.cells Z1 3)) := fun w => by rw [hZ1]; exact run_make_ints w 288 (by omega)
  have hm2 : ∀ w : World, (Instr.makeSlice 35 (.int .i64 32) (.int .i64 32)).run Tryd.prog w = .ok (.slice (some ⟨w.heap.size, 0, none⟩) 32 32) (w.alloc (.cells Z2 3)) := fun w => by rw [hZ2]; exact run_make_ints w 32 (by omega)
  have HZ := Lib.hid (And.intro hZ1 hZ2)
  clear hZ1 hZ2
  go_enter Tryd.func48, Tryd.ntmps48
  go_wp2_with fail
  rename_i Q9 K9 hK9
  obtain ⟨g, hg⟩ : ∃ g, g = w.heap.size := ⟨_, rfl⟩
  have CONT : ∀ (B L M : Nat) (W : World) (u6 : Value), FL w g B L M (fun _ => 0) (fun _ => 0) W → K9 { tmps := #[.pointer (some ⟨g, 0, none⟩), .pointer (some ⟨B, 0, none⟩), undef, undef, .slice (some ⟨L, 0, none⟩) 288 288, .slice (some ⟨M, 0, none⟩) 32 32, u6, undef, undef, undef, undef, undef, undef, undef, undef, undef, undef, undef, undef, undef, undef, undef, undef, undef, undef, undef, undef, undef, undef, undef, undef, undef, undef, undef, undef, undef, undef, undef, undef, undef, undef, undef, undef, undef, undef, undef, undef, undef, undef, undef, undef], defers := [] } W := by
    intro B L M W u6 hFL
    apply hK9
    have HF := Lib.hid hFL
    obtain ⟨k0, k1⟩ := hFL.cells
    clear hFL hm1 hm2 HZ hg hK9
    go_wp2
    go_loopw [10] (fun kv wl => ∃ j : Nat, j ≤ 288 ∧ kv = .int .i64 j ∧ FL w g B L M (fun s => if s < j then lenL s else 0) (fun _ => 0) wl) (fun kv _ => 288 - (intOf kv).toNat)
    case atStart => exact ⟨0, by omega, rfl, HF.out⟩
    case round =>
      clear HF
      obtain ⟨j, hj, rfl, hF⟩ := hrel
      obtain ⟨k0, k1⟩ := hF.cells
      by_cases hlt : j < 288
      · have hc := hF.r1.cell hlt
        have hset := fun (z : Int) (hz : lenL j = z) => hF.set1 (h1' := fun s => if s < j + 1 then lenL s else 0) j hlt z (fun i hi => by
          by_cases e : i = j
          · subst e; rw [if_pos (by omega), if_pos rfl, hz]
          · rw [if_neg e]
            by_cases h : i < j
            · rw [if_pos (by omega), if_pos h]
            · rw [if_neg (by omega), if_neg h])
        have HS := Lib.hid hset
        obtain ⟨hc1, hc2⟩ := hc
        simp only [Nat.lt_irrefl, if_false] at hc1
        clear hset hF
        by_cases a1 : j ≤ 143
        · have X := Lib.hid (HS.out 8 (by unfold lenL; rw [if_pos (by omega)]))
          go_wp2
          go_roundw
          case rel => exact ⟨j + 1, hlt, by go_num, X.out⟩
          case measure => simp [intOf] <;> omega
        · by_cases a2 : j ≤ 255
          · have X := Lib.hid (HS.out 9 (by unfold lenL; rw [if_neg (by omega), if_pos (by omega)]))
            go_wp2
            go_roundw
            case rel => exact ⟨j + 1, hlt, by go_num, X.out⟩
            case measure => simp [intOf] <;> omega
          · by_cases a3 : j ≤ 279
            · have X := Lib.hid (HS.out 7 (by unfold lenL; rw [if_neg (by omega), if_neg (by omega), if_pos (by omega)]))
              go_wp2
              go_roundw
              case rel => exact ⟨j + 1, hlt, by go_num, X.out⟩
              case measure => simp [intOf] <;> omega
            · have X := Lib.hid (HS.out 8 (by unfold lenL; rw [if_neg (by omega), if_neg (by omega), if_neg (by omega)]))
              go_wp2
              go_roundw
              case rel => exact ⟨j + 1, hlt, by go_num, X.out⟩
              case measure => simp [intOf] <;> omega
      · obtain rfl : j = 288 := by omega
        have hF2 : FL w g B L M lenL (fun _ => 0) wr := by
          refine ⟨hF.below, hF.out, hF.box, hF.r1.congr (fun j hj => ?_), hF.r2, hF.at_, hF.ne⟩
          rw [if_pos hj]
        have HF := Lib.hid hF2
        clear hF hF2
        go_wp2
        go_loopw [42] (fun kv wl => ∃ j : Nat, j ≤ 32 ∧ kv = .int .i64 j ∧ FL w g B L M lenL (fun s => if s < j then 5 else 0) wl) (fun kv _ => 32 - (intOf kv).toNat)
        case atStart => exact ⟨0, by omega, rfl, HF.out⟩
        case round =>
          clear HF k0 k1
          obtain ⟨j, hj, rfl, hF⟩ := hrel
          obtain ⟨k0, k1⟩ := hF.cells
          by_cases hlt : j < 32
          · have hc := hF.r2.cell hlt
            have HS := Lib.hid (hF.set2 (h2' := fun s => if s < j + 1 then 5 else 0) j hlt 5 (fun i hi => by
              by_cases e : i = j
              · subst e; rw [if_pos (by omega), if_pos rfl]
              · rw [if_neg e]
                by_cases h : i < j
                · rw [if_pos (by omega), if_pos h]
                · rw [if_neg (by omega), if_neg h]))
            obtain ⟨hc1, hc2⟩ := hc
            simp only [Nat.lt_irrefl, if_false] at hc1
            clear hF
            go_wp2
            go_roundw
            case rel => exact ⟨j + 1, hlt, by go_num, HS.out⟩
            case measure => simp [intOf] <;> omega
          · obtain rfl : j = 32 := by omega
            have hF2 : FL w g B L M lenL (fun _ => 5) wr := by
              refine ⟨hF.below, hF.out, hF.box, hF.r1, hF.r2.congr (fun j hj => ?_), hF.at_, hF.ne⟩
              rw [if_pos hj]
            have go := hF2.out
            have g0 : wr.cell? ⟨g, 0, none⟩ = some (.slice none 0 0) := by simp [World.cell?, go]
            have g1 : wr.cell? ⟨g, 1, none⟩ = some (.slice none 0 0) := by simp [World.cell?, go]
            have gf : ∀ i, wr.frozen? ⟨g, i, none⟩ = false := fun i => by simp [World.frozen?, go]
            have HX := Lib.hid hF2.fin
            clear hF hF2 go
            go_wp2
            refine bodyPost_ret (results_cell_row rfl _ _ g 78 #[.slice (some ⟨L, 0, none⟩) 288 288, .slice (some ⟨M, 0, none⟩) 32 32] (0, 0) _ rfl ?hg Tryd.underlying78 rfl (by kernel_rfl)) rfl ?_
            case hg => exact HX.out.1
            exact ⟨_, _, _, _, rfl, HX.out.2.1, HX.out.2.2.1, HX.out.2.2.2⟩
  subst hg
  go_region
  all_goals
    refine CONT _ _ _ _ _ ?_
    obtain ⟨q0, q1, q2, q3, q4⟩ := four w _ _ _ _
    refine fl_start HZ.out q0 q1 (by first | exact q2 | exact q3 | exact q4) (by first | exact q2 | exact q3 | exact q4) (by first | exact q2 | exact q3 | exact q4) ⟨by omega, by omega, by omega, by omega⟩ ⟨by omega, by omega, by omega, by omega, by omega, by omega⟩
end Go.Proofs.YtpmoknnhgginjaaDoor.Pr

/- The program's fixed codes. -/
namespace Go.Proofs.YtpmoknnhgginjaaDoor.Pr
open Go.RowKit Lzz Ref
set_option linter.unusedVariables false
variable {w0 w w2 : World} {P R D : Nat} {ys : List Nat} {most : Int} {K : Nat → Prop} {f1 f2 : Value} {s : St}

theorem fixL_may : Hu.mayCode fixL = true := by decide +kernel
theorem fixD_may : Hu.mayCode fixD = true := by decide +kernel
/-- But for one block. -/
def But (K : Nat → Prop) (g k : Nat) : Prop := K k ∧ k ≠ g
theorem Pm.write (h : Pm w0 P R D ys most K f1 f2 s w) (g : Nat) (hg : K g) (hw : w0.heap.size ≤ g) (i : Nat) (v : Value) : Pm w0 P R D ys most (But K g) f1 f2 s (w.setCell ⟨g, i, none⟩ v) := by
  obtain ⟨aa, cap, h1, h2, h3, h4⟩ := h.blk
  obtain ⟨n1, n2, n3, n4⟩ := h.apart g hg
  exact ⟨⟨aa, cap, (Below.heap_setCell _ _ _ _ (fun e => n1 e.symm)).trans h1, ownsRow_setCell_other h2 (h4 g (Or.inl hg)) _, h3, fun k hk => h4 k (hk.imp_left And.left)⟩, h.at_, h.rd.kept (Below.heap_setCell _ _ _ _ (fun e => n2 e.symm)) (Below.heap_setCell _ _ _ _ (fun e => n3 e.symm)), h.ne,
    fun k hk => ⟨(h.apart k hk.1).1, (h.apart k hk.1).2.1, (h.apart k hk.1).2.2.1, by simpa [World.setCell] using (h.apart k hk.1).2.2.2⟩, h.byte, h.err, below_set h.old hw _, h.room⟩
/-- The fixed codes are laid by. -/
theorem Pm.setF (h : Pm w0 P R D ys most K f1 f2 s w) (v1 v2 : Value) : Pm w0 P R D ys most K v1 v2 s ((w.setCell ⟨P, 4, none⟩ v1).setCell ⟨P, 5, none⟩ v2) ∧ Kept K w ((w.setCell ⟨P, 4, none⟩ v1).setCell ⟨P, 5, none⟩ v2) := by
  obtain ⟨aa, cap, h1, h2, h3, h4⟩ := h.blk
  have hk : ∀ k, k ≠ P → ((w.setCell ⟨P, 4, none⟩ v1).setCell ⟨P, 5, none⟩ v2).heap[k]? = w.heap[k]? := fun k hk => (Below.heap_setCell _ _ _ _ hk).trans (Below.heap_setCell _ _ _ _ hk)
  refine ⟨⟨⟨aa, cap, by rw [block_set (block_set h1 _)]; rfl, ownsRow_setCell_other (ownsRow_setCell_other h2 h3 _) h3 _, h3, h4⟩, h.at_, h.rd.kept (hk R h.ne.1) (hk D h.ne.2), h.ne,
    fun j hj => ⟨(h.apart j hj).1, (h.apart j hj).2.1, (h.apart j hj).2.2.1, by simpa [World.setCell] using (h.apart j hj).2.2.2⟩, h.byte, h.err, below_set (below_set h.old h.at_ _) h.at_ _, h.room⟩, fun j hj => hk j (h.apart j hj).1⟩
/-- The codes that are laid by. -/
def FixIn (K : Nat → Prop) (w : World) (f1 f2 : Value) : Prop := (f1 = .pointer none ∧ f2 = .pointer none) ∨ (DecIn K w f1 fixL ∧ DecIn K w f2 fixD)
/-- What fixedCodes leaves. -/
def FixSay (w0 : World) (P R D : Nat) (ys : List Nat) (most : Int) (K : Nat → Prop) (s : St) (w : World) (e : Ending) (w' : World) : Prop :=
  ∃ (v1 v2 : Value) (K' : Nat → Prop), e = .returned (.agg #[v1, v2]) ∧ Pm w0 P R D ys most K' v1 v2 s w' ∧ DecIn K' w' v1 fixL ∧ DecIn K' w' v2 fixD

set_option maxRecDepth 100000 in
set_option maxHeartbeats 1600000 in
theorem fixedCodes_any (h : Pm w0 P R D ys most K f1 f2 s w) (hf : FixIn K w f1 f2) :
    Calls Tryd.prog 34 #[.pointer (some ⟨P, 0, none⟩)] w (FixSay w0 P R D ys most K s w) := by
  obtain ⟨W, hW⟩ : ∃ W, W = w.alloc (.cells #[.pointer none, .pointer none] 55) := ⟨_, rfl⟩
  obtain ⟨g, hg⟩ : ∃ g, g = w.heap.size := ⟨_, rfl⟩
  have hb : Below w.heap.size w W := by rw [hW]; exact (Below.refl _ _).alloc (Nat.le_refl _) _
  have hsz : W.heap.size = w.heap.size + 1 := by rw [hW]; exact Array.size_push _
  have hgb : W.heap[g]? = some (.cells #[.pointer none, .pointer none] 55 (0, 0)) := by rw [hW, hg]; exact heap_alloc_new _ _
  obtain ⟨hm, hkw⟩ := h.made hb
  have hK2 : Made K w.heap.size W.heap.size g := Or.inr ⟨by omega, by omega⟩
  have hKK : ∀ k, K k → Made K w.heap.size W.heap.size k := fun k hk => Or.inl hk
  have hKn : ∀ k, K k → k ≠ g := fun k hk => by have := (h.apart k hk).2.2.2; omega
  have hw0g : w0.heap.size ≤ g := by rw [hg]; exact h.old.size
  generalize Made K w.heap.size W.heap.size = K2 at *
  obtain ⟨c0, c2, c3, c4, c5, cf⟩ := hm.cells
  -- the end: the result's block is written
  have END := Lib.hid (fun (w9 : World) (K9 : Nat → Prop) (v1 v2 : Value) (hm9 : Pm w0 P R D ys most K9 v1 v2 s w9) (hg9 : K9 g) (d1 : DecIn (But K9 g) w9 v1 fixL) (d2 : DecIn (But K9 g) w9 v2 fixD) => show FixSay w0 P R D ys most K s w (.returned (.agg #[v1, v2])) ((w9.setCell ⟨g, 0, none⟩ v1).setCell ⟨g, 1, none⟩ v2) from by
    have hk : Kept (But K9 g) w9 ((w9.setCell ⟨g, 0, none⟩ v1).setCell ⟨g, 1, none⟩ v2) := fun k hk => (Below.heap_setCell _ _ _ _ hk.2).trans (Below.heap_setCell _ _ _ _ hk.2)
    obtain ⟨aa, cap, h1, h2, h3, h4⟩ := hm9.blk
    obtain ⟨n1, n2, n3, n4⟩ := hm9.apart g hg9
    refine ⟨v1, v2, But K9 g, rfl, ⟨⟨aa, cap, ?_, ownsRow_setCell_other (ownsRow_setCell_other h2 (h4 g (Or.inl hg9)) _) (h4 g (Or.inl hg9)) _, h3, fun k hk => h4 k (hk.imp_left And.left)⟩, hm9.at_, hm9.rd.kept ?_ ?_, hm9.ne, fun k hk => ⟨(hm9.apart k hk.1).1, (hm9.apart k hk.1).2.1, (hm9.apart k hk.1).2.2.1, by simpa [World.setCell] using (hm9.apart k hk.1).2.2.2⟩, hm9.byte, hm9.err, below_set (below_set hm9.old hw0g _) hw0g _, hm9.room⟩, d1.keep hk, d2.keep hk⟩
    · exact ((Below.heap_setCell _ _ _ _ (fun e => n1 e.symm)).trans (Below.heap_setCell _ _ _ _ (fun e => n1 e.symm))).trans h1
    · exact (Below.heap_setCell _ _ _ _ (fun e => n2 e.symm)).trans (Below.heap_setCell _ _ _ _ (fun e => n2 e.symm))
    · exact (Below.heap_setCell _ _ _ _ (fun e => n3 e.symm)).trans (Below.heap_setCell _ _ _ _ (fun e => n3 e.symm)))
  have HM := Lib.hid (And.intro hm (And.intro hK2 (And.intro hgb hsz)))
  rcases hf with ⟨rfl, rfl⟩ | ⟨hd1, hd2⟩
  · have C1 := Lib.hid (fixedLengths_any W)
    clear h hb hgb hm hkw hK2 hKK hKn hsz
    go_enter Tryd.func34, Tryd.ntmps34
    go_upto_region 1 with fail
    rw [← hW, ← hg]
    clear hW hg
    go_wp2_with fail
    refine C1.out.mono ?_
    rintro e1 w1 ⟨a, c, b, d, rfl, hb1, hi1, hi2⟩
    have C2 := Lib.hid (read_any w1 a 288 c fixL hi1 fixL_may b 32 d fixD hi2 fixD_may)
    have HB1 := Lib.hid hb1
    clear hb1 hi1 hi2 C1 c0 c2 c3 c4 c5 cf
    go_wp2_with fail
    refine C2.out.mono ?_
    rintro e3 w3 ⟨v1, v2, rfl, hb3, hd1, hd2⟩
    obtain ⟨G1, rfl⟩ := hd1.ptr
    obtain ⟨G2, rfl⟩ := hd2.ptr
    have hB := below_more HB1.out hb3 (Nat.le_refl _)
    obtain ⟨hm3, hk3⟩ := HM.out.1.made hB
    obtain ⟨c0, c2, c3, c4, c5, cf⟩ := hm3.cells
    have hg3 := (hB.block g (by have := HM.out.2.2.2; exact lt_of_block HM.out.2.2.1)).trans HM.out.2.2.1
    have hd1' := (hd1.later (fun _ _ _ => rfl) (Nat.le_trans HB1.out.size (Nat.le_refl _)) (Nat.le_refl _) : DecNew W.heap.size w3.heap.size w3 (.pointer (some ⟨G1, 0, none⟩)) fixL).made K2
    have hd2' := (hd2.later (fun _ _ _ => rfl) (Nat.le_trans HB1.out.size (Nat.le_refl _)) (Nat.le_refl _) : DecNew W.heap.size w3.heap.size w3 (.pointer (some ⟨G2, 0, none⟩)) fixD).made K2
    have hnew : ∀ k, (W.heap.size ≤ k ∧ k < w3.heap.size) → But (Made K2 W.heap.size w3.heap.size) g k := fun k hk => ⟨Or.inr hk, by have := lt_of_block HM.out.2.2.1; omega⟩
    have e1 := DecIn.weaker (hd1.later (fun _ _ _ => rfl) HB1.out.size (Nat.le_refl _) : DecNew W.heap.size w3.heap.size w3 (.pointer (some ⟨G1, 0, none⟩)) fixL) hnew
    have e2 := DecIn.weaker (hd2.later (fun _ _ _ => rfl) HB1.out.size (Nat.le_refl _) : DecNew W.heap.size w3.heap.size w3 (.pointer (some ⟨G2, 0, none⟩)) fixD) hnew
    obtain ⟨hs3, hks⟩ := hm3.setF (.pointer (some ⟨G1, 0, none⟩)) (.pointer (some ⟨G2, 0, none⟩))
    have hk9 : Kept (But (Made K2 W.heap.size w3.heap.size) g) w3 ((w3.setCell ⟨P, 4, none⟩ (.pointer (some ⟨G1, 0, none⟩))).setCell ⟨P, 5, none⟩ (.pointer (some ⟨G2, 0, none⟩))) := fun k hk => hks k hk.1
    have X := Lib.hid (END.out _ (Made K2 W.heap.size w3.heap.size) (.pointer (some ⟨G1, 0, none⟩)) (.pointer (some ⟨G2, 0, none⟩)) hs3 (Or.inl HM.out.2.1) (e1.keep hk9) (e2.keep hk9))
    have hgP : g ≠ P := (HM.out.1.apart g HM.out.2.1).1
    have hg4 : ((w3.setCell ⟨P, 4, none⟩ (.pointer (some ⟨G1, 0, none⟩))).setCell ⟨P, 5, none⟩ (.pointer (some ⟨G2, 0, none⟩))).heap[g]? = some (.cells #[.pointer none, .pointer none] 55 (0, 0)) := ((Below.heap_setCell _ _ _ _ hgP).trans (Below.heap_setCell _ _ _ _ hgP)).trans hg3
    have HS := Lib.hid (And.intro hs3 hg4)
    clear hd1 hd2 hb3 hB hm3 hk3 hd1' hd2' hnew e1 e2 hs3 hks hk9 C2 hg3 hg4
    obtain ⟨W9, hW9⟩ : ∃ W9, W9 = ((w3.setCell ⟨P, 4, none⟩ (.pointer (some ⟨G1, 0, none⟩))).setCell ⟨P, 5, none⟩ (.pointer (some ⟨G2, 0, none⟩))) := ⟨_, rfl⟩
    rw [← hW9] at X HS
    obtain ⟨z0, z2, z3, z4, z5, zf⟩ := HS.out.1.cells
    have y0 : W9.cell? ⟨g, 0, none⟩ = some (.pointer none) := by simp [World.cell?, HS.out.2]
    have y1 : W9.cell? ⟨g, 1, none⟩ = some (.pointer none) := by simp [World.cell?, HS.out.2]
    have yf : ∀ i, W9.frozen? ⟨g, i, none⟩ = false := fun i => by simp [World.frozen?, HS.out.2]
    have HG := Lib.hid (show ((W9.setCell ⟨g, 0, none⟩ (.pointer (some ⟨G1, 0, none⟩))).setCell ⟨g, 1, none⟩ (.pointer (some ⟨G2, 0, none⟩))).heap[g]? = some (.cells #[(.pointer (some ⟨G1, 0, none⟩)), (.pointer (some ⟨G2, 0, none⟩))] 55 (0, 0)) from by
      rw [block_set (block_set HS.out.2 _)]; rfl)
    go_upto_region 3 with fail
    rw [← hW9]
    clear hW9 c0 c2 c3 c4 c5 cf
    go_wp2_with fail
    refine bodyPost_ret (results_cell_row rfl _ _ g 55 #[(.pointer (some ⟨G1, 0, none⟩)), (.pointer (some ⟨G2, 0, none⟩))] (0, 0) _ rfl ?hg Tryd.underlying55 rfl (by kernel_rfl)) rfl ?_
    case hg => exact HG.out
    exact X.out
  · obtain ⟨G1, hG1⟩ : ∃ G, f1 = .pointer (some ⟨G, 0, none⟩) := by
      obtain ⟨G, l, c, B, dv, ps, cs, h1, -⟩ := hd1
      exact ⟨G, h1⟩
    subst hG1
    obtain ⟨G2, hG2⟩ : ∃ G, f2 = .pointer (some ⟨G, 0, none⟩) := by
      obtain ⟨G, l, c, B, dv, ps, cs, h1, -⟩ := hd2
      exact ⟨G, h1⟩
    subst hG2
    have e1 := (hd1.keep hkw).weaker (K' := But K2 g) (fun k hk => ⟨hKK k hk, hKn k hk⟩)
    have e2 := (hd2.keep hkw).weaker (K' := But K2 g) (fun k hk => ⟨hKK k hk, hKn k hk⟩)
    have X := Lib.hid (END.out W K2 _ (.pointer (some ⟨G2, 0, none⟩)) hm hK2 e1 e2)
    have y0 : W.cell? ⟨g, 0, none⟩ = some (.pointer none) := by simp [World.cell?, hgb]
    have y1 : W.cell? ⟨g, 1, none⟩ = some (.pointer none) := by simp [World.cell?, hgb]
    have yf : ∀ i, W.frozen? ⟨g, i, none⟩ = false := fun i => by simp [World.frozen?, hgb]
    have HG := Lib.hid (show ((W.setCell ⟨g, 0, none⟩ (.pointer (some ⟨G1, 0, none⟩))).setCell ⟨g, 1, none⟩ (.pointer (some ⟨G2, 0, none⟩))).heap[g]? = some (.cells #[.pointer (some ⟨G1, 0, none⟩), (.pointer (some ⟨G2, 0, none⟩))] 55 (0, 0)) from by
      rw [block_set (block_set hgb _)]; rfl)
    clear h hb hgb hm hkw hK2 hKK hKn hsz hd1 hd2 e1 e2
    go_enter Tryd.func34, Tryd.ntmps34
    go_upto_region 1 with fail
    rw [← hW, ← hg]
    clear hW hg
    go_wp2_with fail
    refine bodyPost_ret (results_cell_row rfl _ _ g 55 #[.pointer (some ⟨G1, 0, none⟩), (.pointer (some ⟨G2, 0, none⟩))] (0, 0) _ rfl ?hg Tryd.underlying55 rfl (by kernel_rfl)) rfl ?_
    case hg => exact HG.out
    exact X.out
end Go.Proofs.YtpmoknnhgginjaaDoor.Pr

/- The program's block. -/
namespace Go.Proofs.YtpmoknnhgginjaaDoor.Pr
open Go.RowKit Lzz Ref
set_option linter.unusedVariables false
variable {w0 w w2 : World} {P R D : Nat} {ys : List Nat} {most : Int} {K : Nat → Prop} {f1 f2 : Value} {s : St}

/-- What the program's told codes say, by a plain reading of them. -/
def ToldOK (w0 : World) (P R D : Nat) (ys : List Nat) (most : Int) (tab : St → (List Int × List Int) × St) : Prop :=
  ∀ (K : Nat → Prop) (f1 f2 : Value) (s : St) (w : World), Pm w0 P R D ys most K f1 f2 s w → s.e = 0 → FixIn K w f1 f2 →
    Calls Tryd.prog 35 #[.pointer (some ⟨P, 0, none⟩)] w fun e w' => ∃ (p1 p2 : Option Addr) (K' : Nat → Prop), e = .returned (.agg #[.pointer p1, .pointer p2]) ∧ Pm w0 P R D ys most K' f1 f2 (tab s).2 w' ∧ FixIn K' w' f1 f2 ∧ ((tab s).2.e = 0 → DecIn K' w' (.pointer p1) (tab s).1.1 ∧ DecIn K' w' (.pointer p2) (tab s).1.2)
/-- A block of a kind. -/
def blockM (tab : St → (List Int × List Int) × St) (ys : List Nat) (most : Int) (k : Nat) (s : St) : St :=
  if s.e ≠ 0 then s
  else if k = 0 then plainP ys most s
  else if k = 1 then blockS ys most (cdOf fixL) (cdOf fixD) (8 * ys.length + 1) s
  else if k = 2 then (if (tab s).2.e ≠ 0 then (tab s).2 else blockS ys most (cdOf (tab s).1.1) (cdOf (tab s).1.2) (8 * ys.length + 1) (tab s).2)
  else s.fail 25
theorem FixIn.keep (h : FixIn K w f1 f2) (hk : Kept K w w2) : FixIn K w2 f1 f2 := by
  rcases h with h | ⟨h1, h2⟩
  · exact Or.inl h
  · exact Or.inr ⟨h1.keep hk, h2.keep hk⟩
/-- A block's end. -/
def BlockSay (w0 : World) (P R D : Nat) (ys : List Nat) (most : Int) (s : St) (e : Ending) (w' : World) : Prop :=
  e = .returned (.tuple #[]) ∧ ∃ (K' : Nat → Prop) (v1 v2 : Value), Pm w0 P R D ys most K' v1 v2 s w' ∧ FixIn K' w' v1 v2

set_option maxRecDepth 100000 in
set_option maxHeartbeats 1600000 in
theorem block_any (tab : St → (List Int × List Int) × St) (h : Pm w0 P R D ys most K f1 f2 s w) (hf : FixIn K w f1 f2) (k : Nat) (hk : k < 4) (ht : k = 2 → ToldOK w0 P R D ys most tab) :
    Calls Tryd.prog 22 #[.pointer (some ⟨P, 0, none⟩), .int .i64 k] w (BlockSay w0 P R D ys most (blockM tab ys most k s)) := by
  obtain ⟨c0, c2, c3, c4, c5, cf⟩ := h.cells
  by_cases h0 : s.e = 0
  · have e0 : blockM tab ys most k s = if k = 0 then plainP ys most s
      else if k = 1 then blockS ys most (cdOf fixL) (cdOf fixD) (8 * ys.length + 1) s
      else if k = 2 then (if (tab s).2.e ≠ 0 then (tab s).2 else blockS ys most (cdOf (tab s).1.1) (cdOf (tab s).1.2) (8 * ys.length + 1) (tab s).2)
      else s.fail 25 := by unfold blockM; rw [if_neg (by simp [h0])]
    rw [e0]
    rw [h0] at c3
    clear e0
    by_cases k0 : k = 0
    · subst k0
      rw [if_pos rfl]
      have C := Lib.hid (plain_any h)
      have HF := Lib.hid hf
      generalize plainP ys most s = res at *
      clear h hf h0 ht hk
      go_enter Tryd.func22, Tryd.ntmps22
      go_wp2_with fail
      refine C.out.mono ?_
      rintro e1 w1 ⟨rfl, hm, hkp⟩
      have X := Lib.hid (show BlockSay w0 P R D ys most res (.returned (.tuple #[])) w1 from ⟨rfl, K, f1, f2, hm, HF.out.keep hkp⟩)
      clear hm hkp C
      go_wp2_with fail
      go_end0
      exact X.out
    · rw [if_neg k0]
      by_cases k1 : k = 1
      · subst k1
        rw [if_pos rfl]
        have C := Lib.hid (fixedCodes_any h hf)
        have H0 := Lib.hid h0
        obtain ⟨res, hres⟩ : ∃ res, res = blockS ys most (cdOf fixL) (cdOf fixD) (8 * ys.length + 1) s := ⟨_, rfl⟩
        rw [← hres]
        have HR := Lib.hid hres
        clear h hf h0 ht hk k0 hres
        go_enter Tryd.func22, Tryd.ntmps22
        go_wp2_with fail
        refine C.out.mono ?_
        rintro e1 w1 ⟨v1, v2, K', rfl, hm, d1, d2⟩
        have C2 := Lib.hid (symbols_any hm H0.out v1 v2 fixL fixD d1 d2 (8 * ys.length + 1) (by omega))
        rw [← HR.out] at C2
        have HD := Lib.hid (And.intro d1 d2)
        clear hm d1 d2 C c0 c2 c3 c4 c5 cf
        go_wp2_with fail
        refine C2.out.mono ?_
        rintro e3 w3 ⟨rfl, hm3, hk3⟩
        have X := Lib.hid (show BlockSay w0 P R D ys most res (.returned (.tuple #[])) w3 from ⟨rfl, K', v1, v2, hm3, Or.inr ⟨HD.out.1.keep hk3, HD.out.2.keep hk3⟩⟩)
        clear hm3 hk3 C2
        go_wp2_with fail
        go_end0
        exact X.out
      · rw [if_neg k1]
        by_cases k2 : k = 2
        · subst k2
          rw [if_pos rfl]
          have C := Lib.hid (ht rfl K f1 f2 s w h h0 hf)
          obtain ⟨res, hres⟩ : ∃ res, res = (if (tab s).2.e ≠ 0 then (tab s).2 else blockS ys most (cdOf (tab s).1.1) (cdOf (tab s).1.2) (8 * ys.length + 1) (tab s).2) := ⟨_, rfl⟩
          rw [← hres]
          have HR := Lib.hid hres
          generalize tab s = t at *
          obtain ⟨⟨lz, dz⟩, s1⟩ := t
          clear h hf h0 ht hk k0 k1 hres
          go_enter Tryd.func22, Tryd.ntmps22
          go_wp2_with fail
          refine C.out.mono ?_
          rintro e1 w1 ⟨p1, p2, K', rfl, hm, hfx, hdd⟩
          try simp only at hm hdd
          obtain ⟨hm2, hk2⟩ := hm.later ((Below.refl _ _).alloc (Nat.le_refl _) (.cells #[.pointer p1, .pointer p2] 55))
          obtain ⟨d0, d2, d3, d4, d5, df⟩ := hm2.cells
          have HM := Lib.hid (And.intro hm2 (And.intro (hfx.keep hk2) (fun h => And.intro ((hdd h).1.keep hk2) ((hdd h).2.keep hk2))))
          obtain ⟨g, hg⟩ : ∃ g, g = w1.heap.size := ⟨_, rfl⟩
          have hgb : (w1.alloc (.cells #[.pointer p1, .pointer p2] 55)).heap[g]? = some (.cells #[.pointer p1, .pointer p2] 55 (0, 0)) := by rw [hg]; exact heap_alloc_new _ _
          obtain ⟨W, hW⟩ : ∃ W, W = w1.alloc (.cells #[.pointer p1, .pointer p2] 55) := ⟨_, rfl⟩
          rw [← hW] at hgb HM d0 d2 d3 d4 d5 df
          have y0 : W.cell? ⟨g, 0, none⟩ = some (.pointer p1) := by simp [World.cell?, hgb]
          have y1 : W.cell? ⟨g, 1, none⟩ = some (.pointer p2) := by simp [World.cell?, hgb]
          clear hm hfx hdd hm2 hk2 C c0 c2 c3 c4 c5 cf hgb
          go_upto_region 9 with fail
          rw [← hg, ← hW]
          clear hg hW
          by_cases he : s1.e = 0
          · have hr := HR.out
            rw [if_neg (by simp [he])] at hr
            obtain ⟨q1, q2⟩ := HM.out.2.2 he
            have C2 := Lib.hid (symbols_any HM.out.1 he (.pointer p1) (.pointer p2) lz dz q1 q2 (8 * ys.length + 1) (by omega))
            rw [← hr] at C2
            rw [he] at d3
            clear hr q1 q2 he
            go_wp2_with fail
            refine C2.out.mono ?_
            rintro e3 w3 ⟨rfl, hm3, hk3⟩
            have X := Lib.hid (show BlockSay w0 P R D ys most res (.returned (.tuple #[])) w3 from ⟨rfl, K', f1, f2, hm3, HM.out.2.1.keep hk3⟩)
            clear hm3 hk3 C2
            go_wp2_with fail
            go_end0
            exact X.out
          · have u5 : (s1.e != 0) = true := by simpa using he
            have u6 : (s1.e == 0) = false := by simpa using he
            have u7 : decide (s1.e = 0) = false := by simpa using he
            have hr := HR.out
            rw [if_pos he] at hr
            have X := Lib.hid (show BlockSay w0 P R D ys most res (.returned (.tuple #[])) W from by rw [hr]; exact ⟨rfl, K', f1, f2, HM.out.1, HM.out.2.1⟩)
            clear hr
            go_wp2_with fail
            go_end0
            exact X.out
        · rw [if_neg k2]
          obtain rfl : k = 3 := by omega
          have C := Lib.hid (fail_any h 25 (by omega))
          have HF := Lib.hid hf
          generalize s.fail 25 = res at *
          clear h hf h0 ht hk k0 k1 k2
          go_enter Tryd.func22, Tryd.ntmps22
          go_wp2_with fail
          refine C.out.mono ?_
          rintro e1 w1 ⟨rfl, hm, hkp⟩
          have X := Lib.hid (show BlockSay w0 P R D ys most res (.returned (.tuple #[])) w1 from ⟨rfl, K, f1, f2, hm, HF.out.keep hkp⟩)
          clear hm hkp C
          go_wp2_with fail
          go_end0
          exact X.out
  · have e0 : blockM tab ys most k s = s := by unfold blockM; rw [if_pos h0]
    have u5 : (s.e != 0) = true := by simpa using h0
    have u6 : (s.e == 0) = false := by simpa using h0
    have u7 : decide (s.e = 0) = false := by simpa using h0
    have X := Lib.hid (show BlockSay w0 P R D ys most s (.returned (.tuple #[])) w from ⟨rfl, K, f1, f2, h, hf⟩)
    rw [e0]
    clear h hf e0 ht
    go_enter Tryd.func22, Tryd.ntmps22
    go_wp2_with fail
    go_end0
    exact X.out
end Go.Proofs.YtpmoknnhgginjaaDoor.Pr

/- A stream's reading, as plain data; where it stands. -/
namespace Go.Proofs.YtpmoknnhgginjaaDoor.Pr
open Go.RowKit Lzz Ref
set_option linter.unusedVariables false
variable {w0 w w2 : World} {P R D : Nat} {ys : List Nat} {most : Int} {K : Nat → Prop} {f1 f2 : Value} {s : St}

/-- A block with its three bits. -/
def roundM (tab : St → (List Int × List Int) × St) (ys : List Nat) (most : Int) (s : St) : St := blockM tab ys most (num ys 2 (num ys 1 s).2).1 (num ys 2 (num ys 1 s).2).2
/-- A stream. -/
def inflM (tab : St → (List Int × List Int) × St) (ys : List Nat) (most : Int) : Nat → St → St
  | 0, s => s
  | f + 1, s => if (num ys 1 s).1 = 0 ∧ (roundM tab ys most s).e = 0 then inflM tab ys most f (roundM tab ys most s) else roundM tab ys most s
/-- Where a block has told codes, T holds. -/
def inflOk (T : Prop) (tab : St → (List Int × List Int) × St) (ys : List Nat) (most : Int) : Nat → St → Prop
  | 0, s => True
  | f + 1, s => ((num ys 2 (num ys 1 s).2).1 = 2 → T) ∧ ((num ys 1 s).1 = 0 → (roundM tab ys most s).e = 0 → inflOk T tab ys most f (roundM tab ys most s))
/-- A reading of tables that goes on. -/
def Onward (tab : St → (List Int × List Int) × St) : Prop := ∀ s, (tab s).2.e = 0 → s.at_ ≤ (tab s).2.at_

theorem num_at {ys : List Nat} {k : Nat} {s : St} (h : (num ys k s).2.e = 0) : s.e = 0 ∧ (num ys k s).2.at_ = s.at_ + k ∧ num ys k s = Ref.get ys k s := by
  unfold num at h ⊢
  split
  · rename_i h1; rw [if_pos h1] at h; exact absurd h h1
  · rename_i h1
    rw [if_neg h1] at h
    exact ⟨by simpa using h1, Ref.get_at _ _ _ h, rfl⟩
theorem bytesP_at (ys : List Nat) : ∀ (n : Nat) (s : St), (bytesP ys n s).e = 0 → s.at_ ≤ (bytesP ys n s).at_
  | 0, s => fun _ => Nat.le_refl _
  | n + 1, s => by
    intro h
    rw [bytesP] at h ⊢
    split at h
    · rename_i h1; exact absurd h h1
    · rename_i h1
      rw [if_neg h1]
      have k := bytesP_at ys n _ h
      by_cases h2 : (num ys 8 s).2.e = 0
      · have := (num_at h2).2.1
        have k' : (num ys 8 s).2.at_ ≤ (bytesP ys n { (num ys 8 s).2 with out := (num ys 8 s).2.out ++ [(num ys 8 s).1] }).at_ := k
        show s.at_ ≤ (bytesP ys n { (num ys 8 s).2 with out := (num ys 8 s).2.out ++ [(num ys 8 s).1] }).at_
        omega
      · have hb := bytesP_bad ys n { (num ys 8 s).2 with out := (num ys 8 s).2.out ++ [(num ys 8 s).1] } h2
        have h' : (bytesP ys n { (num ys 8 s).2 with out := (num ys 8 s).2.out ++ [(num ys 8 s).1] }).e = 0 := h
        rw [hb] at h'
        exact absurd h' h2
theorem plainP_at (h : (plainP ys most s).e = 0) : s.at_ ≤ (plainP ys most s).at_ := by
  unfold plainP at h ⊢
  generalize hN : (num ys 16 (aligned s)).1 = N at *
  generalize hM : (num ys 16 (num ys 16 (aligned s)).2).1 = M at *
  have h1 := bytesP_at ys _ _ h
  by_cases h2 : (roomS most N (if N ^^^ M ≠ 65535 then (num ys 16 (num ys 16 (aligned s)).2).2.fail 25 else (num ys 16 (num ys 16 (aligned s)).2).2)).e = 0
  · have h3 := (roomS_stay h2).1
    rw [h3] at h1 h2
    by_cases hx : N ^^^ M ≠ 65535
    · rw [if_pos hx] at h2
      exact absurd h2 (fail_e _ 25 (by omega))
    · rw [if_neg hx] at h2 h1 h3
      obtain ⟨k1, k2, -⟩ := num_at h2
      obtain ⟨k3, k4, -⟩ := num_at k1
      have ha : s.at_ ≤ (aligned s).at_ := by show s.at_ ≤ (s.at_ + 7) / 8 * 8; omega
      rw [if_neg hx]
      rw [h3]
      omega
  · rw [bytesP_bad _ _ _ h2] at h
    exact absurd h h2
theorem one_at2 (ys : List Nat) (most : Int) (ld dd : Cd) (s : St) (h : (Ref.one ys most ld dd s).2.e = 0) : s.at_ ≤ (Ref.one ys most ld dd s).2.at_ := by
  cases hb : (Ref.one ys most ld dd s).1
  · unfold Ref.one at h hb ⊢
    split at h
    · rename_i he; exact absurd h he
    · rename_i he
      have e0 : (sym ys ld s).2.e = 0 := by simpa using he
      have k := sym_at _ _ _ e0
      rw [if_neg he] at hb ⊢
      split at h
      · rename_i h2; rw [if_pos h2]; show s.at_ ≤ (sym ys ld s).2.at_; omega
      · rename_i h2
        rw [if_neg h2] at hb ⊢
        split at h
        · rename_i h3; rw [if_pos h3] at hb; cases hb
        · rename_i h3
          rw [if_neg h3] at hb ⊢
          split at h
          · exact absurd h (fail_e _ 24 (by omega))
          · rename_i h4; rw [if_neg h4] at hb; cases hb
  · exact Nat.le_of_lt (one_at ys most ld dd s hb h)
theorem blockS_at (ys : List Nat) (most : Int) (ld dd : Cd) : ∀ (f : Nat) (s : St), (blockS ys most ld dd f s).e = 0 → s.at_ ≤ (blockS ys most ld dd f s).at_
  | 0, s => fun _ => Nat.le_refl _
  | f + 1, s => by
    intro h
    rw [blockS] at h ⊢
    split at h
    · rename_i h1; exact absurd h h1
    · rename_i h1
      rw [if_neg h1]
      split at h
      · rename_i h2
        rw [if_pos h2]
        have k := blockS_at ys most ld dd f _ h
        by_cases h3 : (Ref.one ys most ld dd s).2.e = 0
        · have := one_at2 ys most ld dd s h3
          omega
        · rw [blockS_stop _ _ _ _ _ _ h3] at h
          exact absurd h h3
      · rename_i h2
        rw [if_neg h2]
        exact one_at2 ys most ld dd s h
theorem blockM_at {tab : St → (List Int × List Int) × St} (ht : Onward tab) {k : Nat} (h : (blockM tab ys most k s).e = 0) : s.at_ ≤ (blockM tab ys most k s).at_ := by
  unfold blockM at h ⊢
  split at h
  · rename_i h1; exact absurd h h1
  · rename_i h1
    rw [if_neg h1]
    split at h
    · rename_i h2; rw [if_pos h2]; exact plainP_at h
    · rename_i h2
      rw [if_neg h2]
      split at h
      · rename_i h3; rw [if_pos h3]; exact blockS_at _ _ _ _ _ _ h
      · rename_i h3
        rw [if_neg h3]
        split at h
        · rename_i h4
          rw [if_pos h4]
          split at h
          · rename_i h5; exact absurd h h5
          · rename_i h5
            rw [if_neg h5]
            have := ht s (by simpa using h5)
            have := blockS_at _ _ _ _ _ _ h
            omega
        · exact absurd h (fail_e _ 25 (by omega))
theorem blockM_bad (tab : St → (List Int × List Int) × St) (ys : List Nat) (most : Int) (k : Nat) (s : St) (h : s.e ≠ 0) : blockM tab ys most k s = s := by unfold blockM; rw [if_pos h]
theorem roundM_at {tab : St → (List Int × List Int) × St} (ht : Onward tab) (h : (roundM tab ys most s).e = 0) : s.at_ < (roundM tab ys most s).at_ := by
  unfold roundM at h ⊢
  have h1 := blockM_at ht h
  by_cases h2 : (num ys 2 (num ys 1 s).2).2.e = 0
  · obtain ⟨k1, k2, -⟩ := num_at h2
    obtain ⟨k3, k4, -⟩ := num_at k1
    omega
  · rw [blockM_bad _ _ _ _ _ h2] at h
    exact absurd h h2
/-- How much is left to read. -/
def leftP (P R L : Nat) (w : World) : Nat := match w.cell? ⟨P, 3, none⟩ with
  | some (.int _ e) => if e = 0 then leftR R L w else 0
  | _ => 0
theorem Pm.leftP (h : Pm w0 P R D ys most K f1 f2 s w) : leftP P R ys.length w = if s.e = 0 then 8 * ys.length + 1 - s.at_ else 0 := by
  obtain ⟨_, _, c3, _⟩ := h.cells
  simp [Pr.leftP, c3, h.leftR]
end Go.Proofs.YtpmoknnhgginjaaDoor.Pr

/- The program's Inflate. -/
namespace Go.Proofs.YtpmoknnhgginjaaDoor.Pr
open Go.RowKit Lzz Ref
set_option linter.unusedVariables false
variable {w0 w w2 : World} {P R D : Nat} {ys : List Nat} {most : Int} {K : Nat → Prop} {f1 f2 : Value} {s : St}

/-- What Inflate tells. -/
def InflSay (w : World) (L : Nat) (s : St) (e : Ending) (w' : World) : Prop :=
  Below w.heap.size w w' ∧ s.at_ ≤ 8 * L ∧ s.out.length ≤ 16777216 ∧ (∀ y ∈ s.out, y < 256) ∧ ((s.e ≠ 0 ∧ e = .returned (.tuple #[.slice none 0 0, .int .i64 0, .int .i64 s.e])) ∨
    (s.e = 0 ∧ ∃ aa cap, e = .returned (.tuple #[.slice aa s.out.length cap, .int .i64 (((s.at_ + 7) / 8 : Nat) : Int), .int .i64 0]) ∧ w'.ownsRow w.heap.size 5 1 (.slice aa s.out.length cap) s.out.length (bys s.out)))

set_option maxRecDepth 100000 in
set_option maxHeartbeats 3200000 in
theorem inflate_any (w : World) (a : Option Addr) (n c : Nat) (ys : List Nat) (h : Bi.Bytes w a n ys) (hn : n ≤ 16777216) (most : Nat) (hmost : most ≤ 16777216) (tab : St → (List Int × List Int) × St) (hon : Onward tab)
    (hok : inflOk (∀ P R D, ToldOK w P R D ys most tab) tab ys most (8 * n + 1) ⟨0, [], 0⟩) :
    Calls Tryd.prog 10 #[.slice a n c, .int .i64 most] w (InflSay w n (inflM tab ys most (8 * n + 1) ⟨0, [], 0⟩)) := by
  have C0 := Lib.hid (Bi.open_any w w.heap.size (Nat.le_refl _) a n c ys false h hn)
  have HN := Lib.hid h.1
  have HOK := Lib.hid hok
  have hmx : max (most : Int) 0 = (most : Int) := by omega
  obtain ⟨res, hres⟩ : ∃ res, res = inflM tab ys most (8 * n + 1) ⟨0, [], 0⟩ := ⟨_, rfl⟩
  rw [← hres]
  have HR := Lib.hid hres
  clear h hok hres
  go_enter Tryd.func10, Tryd.ntmps10
  go_wp2_with fail
  refine C0.out.mono ?_
  rintro e1 w1 ⟨R, rfl, hrd, hR, hb⟩
  obtain ⟨W, hW⟩ : ∃ W, W = w1.alloc (.cells #[.pointer (some ⟨R, 0, none⟩), .slice none 0 0, .int .i64 (most : Int), .int .i64 0, .pointer none, .pointer none] 57) := ⟨_, rfl⟩
  obtain ⟨P, hP⟩ : ∃ P, P = w1.heap.size := ⟨_, rfl⟩
  clear C0
  go_upto_region 2 with fail
  rw [← hP, ← hW]
  have hst : Pm w P R w.heap.size ys most (fun _ => False) (.pointer none) (.pointer none) ⟨0, [], 0⟩ W := by
    have hbW : Below w1.heap.size w1 W := by rw [hW]; exact (Below.refl _ _).alloc (Nat.le_refl _) _
    refine ⟨⟨none, 0, by rw [hW, hP]; exact heap_alloc_new _ _, World.ownsRow_nil _ _ _ _, by simp [Value.ownBlock], fun k hk => by simp [Value.ownBlock]⟩, by rw [hP]; exact hb.size, hrd.kept (hbW.block _ hrd.lt.1) (hbW.block _ hrd.lt.2), ⟨?_, ?_⟩, fun k hk => hk.elim, by simp, by simp, below_more hb hbW (Nat.le_refl _), by simp; omega⟩
    · have := hrd.lt.1; omega
    · have := hrd.lt.2; omega
  have HST := Lib.hid hst
  clear hW hP hst hrd hR hb hmx
  go_wp2_with fail
  go_loopw [8] (fun lv wl => ∃ (l : Nat) (s' : St) (K' : Nat → Prop) (v1 v2 : Value), lv = .int .i64 l ∧ l < 2 ∧ Pm w P R w.heap.size ys most K' v1 v2 s' wl ∧ FixIn K' wl v1 v2 ∧ ((l = 0 ∧ s'.e = 0 ∧ ∃ g, res = inflM tab ys most g s' ∧ inflOk (∀ P R D, ToldOK w P R D ys most tab) tab ys most g s' ∧ 8 * ys.length + 1 ≤ g + s'.at_) ∨ (¬ (l = 0 ∧ s'.e = 0) ∧ res = s'))) (fun _ wl => leftP P R ys.length wl)
  case atStart => exact ⟨0, ⟨0, [], 0⟩, fun _ => False, .pointer none, .pointer none, rfl, by omega, HST.out, Or.inl ⟨rfl, rfl⟩, Or.inl ⟨rfl, rfl, 8 * n + 1, HR.out, HOK.out, by have := HN.out; show 8 * ys.length + 1 ≤ 8 * n + 1 + 0; omega⟩⟩
  case round =>
    clear HST
    obtain ⟨l, s', K', v1, v2, rfl, hl2, hm, hfx, hcase⟩ := hrel
    obtain ⟨c0, c2, c3, c4, c5, cf⟩ := hm.cells
    rcases hcase with ⟨rfl, he, g, hres, hok, hg⟩ | ⟨hnot, hres⟩
    · rw [he] at c3
      have hfar := hm.far
      obtain ⟨g', rfl⟩ : ∃ g', g = g' + 1 := ⟨g - 1, by omega⟩
      rw [inflM] at hres
      rw [inflOk] at hok
      have hlf := hm.leftP
      rw [if_pos he] at hlf
      have hrat := @roundM_at ys most s' tab hon
      have hrm := show roundM tab ys most s' = blockM tab ys most (num ys 2 (num ys 1 s').2).1 (num ys 2 (num ys 1 s').2).2 from rfl
      have hb1 := num_lt ys 1 s'
      have C1 := Lib.hid (number_any hm 1 (by omega))
      have HRES := Lib.hid hres
      have HOK2 := Lib.hid hok
      have HNN := Lib.hid (And.intro hlf (And.intro hrat (And.intro hg hfar)))
      have HRM := Lib.hid hrm
      have HFX := Lib.hid hfx
      generalize roundM tab ys most s' = s3 at *
      generalize num ys 1 s' = g1 at *
      obtain ⟨b1, s1⟩ := g1
      try simp only at hb1
      clear hres hok hlf hrat hrm hg hfar hm hfx he
      go_wp2_with fail
      refine C1.out.mono ?_
      rintro e2 w2 ⟨rfl, hm2, hk2⟩
      try simp only at hm2
      have C2 := Lib.hid (number_any hm2 2 (by omega))
      have hk4 := num_lt ys 2 s1
      have hrm := HRM.out
      try simp only at hrm
      have hok := HOK2.out
      try simp only at hok
      have hres := HRES.out
      try simp only at hres
      have HF2 := Lib.hid (HFX.out.keep hk2)
      generalize num ys 2 s1 = g2 at *
      obtain ⟨k, s2⟩ := g2
      try simp only at hk4 hrm hok
      have HRM2 := Lib.hid hrm
      have HOK3 := Lib.hid hok
      have HRES2 := Lib.hid hres
      have hb12 : b1 < 2 := hb1
      have hk44 : k < 4 := hk4
      clear hm2 hk2 C1 hrm hok hres hb1 hk4 HRM HOK2 HRES c0 c2 c3 c4 c5 cf
      go_wp2_with fail
      refine C2.out.mono ?_
      rintro e4 w4 ⟨rfl, hm4, hk4⟩
      try simp only at hm4
      have C3 := Lib.hid (block_any tab hm4 (HF2.out.keep hk4) k hk44 (fun h => HOK3.out.1 h P R w.heap.size))
      rw [← HRM2.out] at C3
      clear hm4 hk4 C2
      go_wp2_with fail
      refine C3.out.mono ?_
      rintro e5 w5 ⟨rfl, K5, x1, x2, hm5, hf5⟩
      have hlf5 := hm5.leftP
      have X := Lib.hid (And.intro hm5 (And.intro hf5 hlf5))
      clear hm5 hf5 C3 hlf5
      go_wp2_with fail
      go_roundw
      case rel =>
        refine ⟨b1, s3, K5, x1, x2, rfl, hb12, X.out.1, X.out.2.1, ?_⟩
        by_cases hgo : b1 = 0 ∧ s3.e = 0
        · have h1 := HRES2.out
          rw [if_pos hgo] at h1
          refine Or.inl ⟨hgo.1, hgo.2, g', h1, HOK3.out.2 hgo.1 hgo.2, ?_⟩
          have h2 := HNN.out.2.1 hgo.2
          have h3 := HNN.out.2.2.1
          omega
        · have h1 := HRES2.out
          rw [if_neg hgo] at h1
          exact Or.inr ⟨hgo, h1⟩
      case measure =>
        have h1 := HNN.out.1
        have h2 := HNN.out.2.2.2
        have h3 := X.out.2.2
        have h4 := HNN.out.2.1
        rw [h1, h3]
        by_cases h5 : s3.e = 0
        · have h6 := h4 h5
          rw [if_pos h5]; omega
        · rw [if_neg h5]; omega
    · have XR := Lib.hid (And.intro hm hres)
      have hex : (l = 0 ∧ s'.e ≠ 0) ∨ l = 1 := by
        by_cases h : l = 0
        · exact Or.inl ⟨h, fun h2 => hnot ⟨h, h2⟩⟩
        · exact Or.inr (by omega)
      obtain ⟨aa, cap, h1, h2, h3, h4⟩ := hm.blk
      have c1 : wr.cell? ⟨P, 1, none⟩ = some (.slice aa s'.out.length cap) := by simp [World.cell?, h1]
      have CAT := Lib.hid (fun q => Bi.at_any (wr.drewN q) w.heap.size R w.heap.size s'.at_ false ys (hm.drewN q).1.rd)
      have FIN := Lib.hid (fun (q : Nat) (e : Ending) (h : (s'.e ≠ 0 ∧ e = .returned (.tuple #[.slice none 0 0, .int .i64 0, .int .i64 s'.e])) ∨ (s'.e = 0 ∧ e = .returned (.tuple #[.slice aa s'.out.length cap, .int .i64 (((s'.at_ + 7) / 8 : Nat) : Int), .int .i64 0]))) => show InflSay w n res e (wr.drewN q) from by
        rw [hres]
        refine ⟨(hm.drewN q).1.old, by have := hm.far; rw [HN.out] at this; exact this, by have := hm.room; omega, hm.byte, ?_⟩
        rcases h with h | ⟨h, h'⟩
        · exact Or.inl h
        · exact Or.inr ⟨h, aa, cap, h', own_kept2 h2 (fun _ _ => rfl)⟩)
      have hfar := hm.far
      have hlen := hm.len
      obtain ⟨at1, hat1⟩ : ∃ at1, at1 = s'.at_ := ⟨_, rfl⟩
      rw [← hat1] at CAT FIN hfar
      obtain ⟨ol, hol⟩ : ∃ ol, ol = s'.out.length := ⟨_, rfl⟩
      rw [← hol] at c1 FIN
      have HF := Lib.hid (And.intro hnot (And.intro hfx hres))
      clear hm hres hfx h1 h2 h3 h4 hnot hat1 hol
      by_cases he : s'.e = 0
      · have hl1 : l = 1 := by rcases hex with h | h <;> omega
        subst hl1
        have ediv : (((at1 + 7) / 8 : Nat) : Int) = ((at1 : Int) + 7) / 8 := by omega
        have FIN2 := Lib.hid (fun q => show InflSay w n res (.returned (.tuple #[.slice aa ol cap, .int .i64 (((at1 : Int) + 7) / 8), .int .i64 0])) (wr.drewN q) from by
          have h := FIN.out q _ (Or.inr ⟨he, rfl⟩)
          rw [ediv] at h
          exact h)
        rw [he] at c3
        clear FIN he hex ediv
        go_wp2_with fail
        go_quiet (first | (go_at_call 23; exact Calls.quiet_of_same (CAT.out _)))
        go_wp2_with fail
        go_ret3
        exact FIN2.out _
      · have u5 : (s'.e != 0) = true := by simpa using he
        have u6 : (s'.e == 0) = false := by simpa using he
        have u7 : decide (s'.e = 0) = false := by simpa using he
        have FIN2 := Lib.hid (fun q => FIN.out q _ (Or.inl ⟨he, rfl⟩))
        clear FIN CAT
        by_cases hl0 : l = 0
        · subst hl0
          clear hex he
          go_wp2_with fail
          go_quiet (fail)
          go_wp2_with fail
          go_ret3
          exact FIN2.out _
        · obtain rfl : l = 1 := by omega
          clear hex he hl0
          go_wp2_with fail
          go_quiet (fail)
          go_wp2_with fail
          go_ret3
          exact FIN2.out _
end Go.Proofs.YtpmoknnhgginjaaDoor.Pr

/- The program's frame: number, begins, Unzip. -/
namespace Go.Proofs.YtpmoknnhgginjaaDoor.Pr
open Go.RowKit Lzz Ref
set_option linter.unusedVariables false

set_option maxHeartbeats 800000 in
theorem begins_any (w : World) : Calls Tryd.prog 27 #[.int .i64 120, .int .i64 156] w fun e w' => e = .returned (.bool true) ∧ w' = w := by
  have b1 : bits .and .i64 120 15 = 8 := by decide
  have b2 : bits .and .i64 156 32 = 0 := by decide
  have b3 : bits .or .i64 30720 156 = 30876 := by decide
  go_enter Tryd.func27, Tryd.ntmps27
  go_wp2
  go_ret
  exact ⟨rfl, rfl⟩
/-- A number of bytes, the highest first. -/
def numB (ys : List Nat) : Nat := Bi.val true (Bi.rowOf true ys)
set_option maxHeartbeats 800000 in
theorem numB_any (w : World) (a : Option Addr) (n c : Nat) (ys : List Nat) (h : Bi.Bytes w a n ys) (hn : n ≤ 4) :
    Calls Tryd.prog 28 #[.slice a n c] w fun e w' => e = .returned (.int .i64 (numB ys : Nat)) ∧ w' = w := by
  obtain ⟨hl, hb, hc⟩ := h
  have HL := Lib.hid hl
  have HB := Lib.hid hb
  have HC := Lib.hid hc
  clear hl hb hc
  unfold numB
  go_enter Tryd.func28, Tryd.ntmps28
  go_wp2
  go_loopw [3, 8] (fun v cnt wr => ∃ i : Nat, i ≤ n ∧ cnt = .int .i64 i ∧ v = .int .i64 (Bi.val true (Bi.rowOf true (ys.take i)) : Nat) ∧ wr = w) (fun _ cnt _ => n - (intOf cnt).toNat)
  case atStart => exact ⟨0, Nat.zero_le _, rfl, rfl, rfl⟩
  case round =>
    obtain ⟨i, hi, rfl, rfl, rfl⟩ := hrel
    by_cases hlt : i < n
    · obtain ⟨b, off, rfl, hcell⟩ := HC.out (by omega)
      obtain ⟨y, hy⟩ : ∃ y, ys[i]? = some y := ⟨_, List.getElem?_eq_getElem (by rw [HL.out]; exact hlt)⟩
      have c0 := hcell i y hy
      have hy8 : y < 256 := HB.out y (List.mem_of_getElem? hy)
      have hm := Lib.hid (Bi.high_more hy hy8)
      have hV : Bi.val true (Bi.rowOf true (ys.take i)) < 16777216 := by
        have h1 := Bi.val_lt true (Bi.rowOf true (ys.take i))
        rw [Bi.rowOf_length, List.length_take] at h1
        have h2 : 2 ^ (8 * min i ys.length) ≤ 2 ^ 24 := Nat.pow_le_pow_right (by omega) (by omega)
        omega
      generalize Bi.val true (Bi.rowOf true (ys.take i)) = V at *
      clear hcell hy
      go_wp2
      go_roundw
      case rel => exact ⟨i + 1, hlt, by go_num, by rw [hm.out, Bi.or_high V y hV hy8], trivial⟩
      case measure => simp [intOf]; omega
    · obtain rfl : i = n := by omega
      rw [List.take_of_length_le (by rw [HL.out]; omega)]
      go_wp2
      go_ret
      exact ⟨rfl, rfl⟩

/-- What Unzip tells of a frame whose two bytes are right. -/
def UnzSay (w : World) (fin : St) (rest : List Nat) (e : Ending) (w' : World) : Prop :=
  Below w.heap.size w w' ∧ ((fin.e ≠ 0 ∧ e = .returned (.tuple #[.slice none 0 0, .int .i64 fin.e])) ∨
    (fin.e = 0 ∧ rest.length < 4 ∧ e = .returned (.tuple #[.slice none 0 0, .int .i64 20])) ∨
    (fin.e = 0 ∧ 4 ≤ rest.length ∧ numB (rest.take 4) ≠ Su.Sums.adler fin.out ∧ e = .returned (.tuple #[.slice none 0 0, .int .i64 23])) ∨
    (fin.e = 0 ∧ 4 < rest.length ∧ numB (rest.take 4) = Su.Sums.adler fin.out ∧ e = .returned (.tuple #[.slice none 0 0, .int .i64 25])) ∨
    (fin.e = 0 ∧ rest.length = 4 ∧ numB (rest.take 4) = Su.Sums.adler fin.out ∧ ∃ aa cap, e = .returned (.tuple #[.slice aa fin.out.length cap, .int .i64 0]) ∧ w'.ownsRow w.heap.size 5 1 (.slice aa fin.out.length cap) fin.out.length (bys fin.out)))

theorem bi_drop {w : World} {b off r k : Nat} {zs : List Nat} (h : Bi.Bytes w (some ⟨b, off, none⟩) r zs) (hk : k ≤ r) : Bi.Bytes w (some ⟨b, off + k, none⟩) (r - k) (zs.drop k) := by
  obtain ⟨h1, h2, h3⟩ := h
  refine ⟨by simp [h1], fun y hy => h2 y (List.mem_of_mem_drop hy), fun hp => ?_⟩
  obtain ⟨b', off', e, hcell⟩ := h3 (by omega)
  simp only [Option.some.injEq, Addr.mk.injEq, and_true] at e
  obtain ⟨rfl, rfl⟩ := e
  refine ⟨b, off + k, rfl, fun j y hj => ?_⟩
  rw [List.getElem?_drop] at hj
  rw [Nat.add_assoc]
  exact hcell _ _ hj
theorem bi_take {w : World} {a : Option Addr} {r k : Nat} {zs : List Nat} (h : Bi.Bytes w a r zs) (hk : k ≤ r) : Bi.Bytes w a k (zs.take k) := by
  obtain ⟨h1, h2, h3⟩ := h
  refine ⟨by simp [h1]; omega, fun y hy => h2 y (List.mem_of_mem_take hy), fun hp => ?_⟩
  obtain ⟨b, off, e, hcell⟩ := h3 (by omega)
  refine ⟨b, off, e, fun j y hj => ?_⟩
  rw [List.getElem?_take] at hj
  split at hj
  · exact hcell j y hj
  · cases hj
theorem texts_one (w1 : World) (aa : Option Addr) (n cap : Nat) (ds : List Nat) (h1 : Bytes w1 aa n ds) (h2 : n ≤ cap ∧ (aa = none → n = 0 ∧ cap = 0)) : Su.Texts (w1.alloc (.cells #[.slice aa n cap] 26)) (some ⟨w1.heap.size, 0, none⟩) 1 [ds] := by
  have hb2 : Below w1.heap.size w1 (w1.alloc (.cells #[.slice aa n cap] 26)) := (Below.refl _ _).alloc (Nat.le_refl _) _
  have hnew : (w1.alloc (.cells #[.slice aa n cap] 26)).heap[w1.heap.size]? = some (.cells #[.slice aa n cap] 26 (0, 0)) := heap_alloc_new _ _
  refine ⟨rfl, fun i ys hi => ?_⟩
  cases i with
  | succ i => simp at hi
  | zero =>
    simp only [List.getElem?_cons_zero, Option.some.injEq] at hi
    subst hi
    refine ⟨w1.heap.size, 0, aa, n, cap, rfl, ?_, h2, h1.1, h1.2.1, fun hp => ?_⟩
    · show (w1.alloc (.cells #[.slice aa n cap] 26)).cell? ⟨w1.heap.size, 0, none⟩ = _
      unfold World.cell?
      simp only [hnew]
      rfl
    · obtain ⟨b', off', e, hc'⟩ := h1.2.2 hp
      exact ⟨b', off', e, fun j y hj => (World.cell?_of_block (w := w1) (hb2.block _ (World.block_lt_of_cell? w1 _ (hc' j y hj)))).trans (hc' j y hj)⟩
set_option maxRecDepth 100000 in
set_option maxHeartbeats 3200000 in
theorem unzip_any (w : World) (a : Option Addr) (n c : Nat) (ys : List Nat) (h : Bi.Bytes w a n ys) (hn : n ≤ 16777216) (hc : n ≤ c) (h2 : 2 < n) (y0 : ys[0]? = some 120) (y1 : ys[1]? = some 156) (most : Nat) (hmost : most ≤ 16777216) (tab : St → (List Int × List Int) × St) (hon : Onward tab)
    (hok : ∀ w1, Below w.heap.size w w1 → inflOk (∀ P R D, ToldOK w1 P R D (ys.drop 2) most tab) tab (ys.drop 2) most (8 * (n - 2) + 1) ⟨0, [], 0⟩) (fin : St) (hfin : fin = inflM tab (ys.drop 2) most (8 * (n - 2) + 1) ⟨0, [], 0⟩) :
    Calls Tryd.prog 16 #[.slice a n c, .int .i64 most] w (UnzSay w fin (ys.drop (2 + (fin.at_ + 7) / 8))) := by
  obtain ⟨b, off, rfl, hcell⟩ := h.2.2 (by omega)
  have c0 : w.cell? ⟨b, off, none⟩ = some (.int .u8 120) := hcell 0 120 y0
  have h0n : 0 < n := by omega
  have h1n : 1 < n := by omega
  have hc2 : ¬ c = 2 := by omega
  have hc3 : 2 ≤ c := by omega
  have u0 : decide ((n : Int) < 2) = false := by simp; omega
  have c1 : w.cell? ⟨b, off + 1, none⟩ = some (.int .u8 156) := hcell 1 156 y1
  have HB := Lib.hid h
  have CB := Lib.hid (fun q => begins_any (w.drewN q))
  have CI := Lib.hid (fun q => inflate_any (w.drewN q) (some ⟨b, off + 2, none⟩) (n - 2) (c - 2) (ys.drop 2) ((bi_drop h (by omega)).later (fun _ _ => rfl)) (by omega) most hmost tab hon (hok (w.drewN q) ⟨rfl, rfl, rfl, Nat.le_refl _, fun _ _ => rfl⟩))
  rw [← hfin] at CI
  obtain ⟨rest, hrest⟩ : ∃ rest, rest = ys.drop (2 + (fin.at_ + 7) / 8) := ⟨_, rfl⟩
  rw [← hrest]
  have HR := Lib.hid hrest
  obtain ⟨n2, hn2⟩ : ∃ n2, n2 = n - 2 := ⟨_, rfl⟩
  rw [← hn2] at CI
  have HN2 := Lib.hid hn2
  clear h hcell hok hfin y0 y1 hrest
  go_enter Tryd.func16, Tryd.ntmps16
  go_wp2_with fail
  go_quiet (first | (go_at_call 27; exact Calls.quiet_of_same (CB.out _)))
  go_wp2_with fail
  rw [← hn2]
  clear hn2
  refine (CI.out nq).mono ?_
  rintro e1 w1 ⟨hb, hat, hol, hby, hcase⟩
  have hb0 : Below w.heap.size w w1 := ⟨hb.os, hb.tape, hb.output, hb.size, hb.block⟩
  rcases hcase with ⟨he, rfl⟩ | ⟨he, aa, cap, rfl, hown⟩
  · have u5 : (fin.e != 0) = true := by simpa using he
    have u6 : (fin.e == 0) = false := by simpa using he
    have u7 : decide (fin.e = 0) = false := by simpa using he
    have X := Lib.hid (show UnzSay w fin rest (.returned (.tuple #[.slice none 0 0, .int .i64 fin.e])) w1 from ⟨hb0, Or.inl ⟨he, rfl⟩⟩)
    clear hb hat hol hby hb0 he
    go_wp2_with fail
    go_ret2
    exact X.out
  · obtain ⟨u, hu⟩ : ∃ u, u = (fin.at_ + 7) / 8 := ⟨_, rfl⟩
    have hun : u ≤ n2 := by omega
    have hrl : rest.length = n - (2 + u) := by rw [HR.out, ← hu, List.length_drop, HB.out.1]
    obtain ⟨q, hq⟩ : ∃ q, q = 2 + u := ⟨_, rfl⟩
    have hqn : q ≤ n := by have := HN2.out; omega
    have k1 : (2 : Int) + (u : Int) = (q : Int) := by omega
    have k2 : IntKind.i64.wrap (q : Int) = (q : Int) := wrap_i64 _ (by omega) (by omega)
    have hqc : q ≤ c := by omega
    obtain ⟨r, hr⟩ : ∃ r, n - q = r := ⟨_, rfl⟩
    rw [← hu]
    have hrl2 : rest.length = r := by rw [hrl, ← hr, hq]
    have hby2 : Bi.Bytes w (some ⟨b, off + q, none⟩) r rest := by
      have h9 := bi_drop HB.out hqn
      rw [hr] at h9
      rw [HR.out, ← hu, ← hq]
      exact h9
    have HBR := Lib.hid (hby2.later (fun k hk => hb0.block k hk))
    have HOWN := Lib.hid hown
    have HBB := Lib.hid (And.intro hb0 (And.intro hol (And.intro hby he)))
    have HRL := Lib.hid hrl2
    have hrn : r ≤ 16777216 := by omega
    have hcr : r ≤ c - q := by omega
    clear hb hat hu hq hrl hun hown hol hby hb0 hrl2 hby2 he
    by_cases hsh : r < 4
    · have X := Lib.hid (show UnzSay w fin rest (.returned (.tuple #[.slice none 0 0, .int .i64 20])) w1 from ⟨HBB.out.1, Or.inr (Or.inl ⟨HBB.out.2.2.2, by rw [HRL.out]; exact hsh, rfl⟩)⟩)
      have u8 : decide ((r : Int) < 4) = true := by simp; omega
      by_cases hcq : c = q
      · go_wp2_with fail
        go_ret2
        exact X.out
      · go_wp2_with fail
        go_ret2
        exact X.out
    · have u8 : decide ((r : Int) < 4) = false := by simp; omega
      have hcq : ¬ c = q := by omega
      have h4c : 4 ≤ c - q := by omega
      have CN := Lib.hid (fun c4 => numB_any w1 (some ⟨b, off + q, none⟩) 4 c4 (rest.take 4) (bi_take HBR.out (by omega)) (by omega))
      have ho := bytes_of_own HOWN.out HBB.out.2.2.1
      obtain ⟨ol, hol⟩ : ∃ ol, ol = fin.out.length := ⟨_, rfl⟩
      have hb2 : Below w1.heap.size w1 (w1.alloc (.cells #[.slice aa fin.out.length cap] 26)) := (Below.refl _ _).alloc (Nat.le_refl _) _
      have HTX := Lib.hid (texts_one w1 aa fin.out.length cap fin.out ho.1 ho.2)
      have CA := Lib.hid (Su.adler_any _ _ 1 1 [fin.out] (by omega) (by intro ys hy; simp at hy; subst hy; exact HBB.out.2.1) HTX.out)
      have hfl : ([fin.out] : List (List Nat)).flatten = fin.out := by simp
      rw [hfl] at CA
      have FINB := Lib.hid (show Below w.heap.size w (w1.alloc (.cells #[.slice aa fin.out.length cap] 26)) from below_more HBB.out.1 hb2 (Nat.le_refl _))
      have FINO := Lib.hid (show (w1.alloc (.cells #[.slice aa fin.out.length cap] 26)).ownsRow w.heap.size 5 1 (.slice aa fin.out.length cap) fin.out.length (bys fin.out) from by
        obtain ⟨q1, q2⟩ := HOWN.out
        refine ⟨q1, ?_⟩
        rcases q2 with q2 | ⟨g, cp, cur, e1, e2, e3, e4⟩
        · exact Or.inl q2
        · exact Or.inr ⟨g, cp, cur, e1, e2, (hb2.block g (lt_of_block e3)).trans e3, e4⟩)
      obtain ⟨N, hN⟩ : ∃ N, N = numB (rest.take 4) := ⟨_, rfl⟩
      obtain ⟨M, hM⟩ : ∃ M, M = Su.Sums.adler fin.out := ⟨_, rfl⟩
      rw [← hN] at CN
      rw [← hM] at CA
      have HNM := Lib.hid (And.intro hN hM)
      obtain ⟨W, hW⟩ : ∃ W, W = w1.alloc (.cells #[.slice aa fin.out.length cap] 26) := ⟨_, rfl⟩
      rw [← hW] at CA FINB FINO
      clear ho hol hb2 hN hM hfl HTX
      go_wp2_with fail
      refine (CN.out _).mono ?_
      rintro e3 w3 ⟨rfl, hw3⟩
      obtain rfl := hw3.symm
      go_wp2_with fail
      rw [← hW]
      clear hW
      refine CA.out.mono ?_
      rintro e4 w4 ⟨rfl, hw4⟩
      obtain rfl := hw4.symm
      by_cases hNM : N = M
      · have u1 : ((N : Int) != (M : Int)) = false := by simp [hNM]
        have u2 : ((N : Int) == (M : Int)) = true := by simp [hNM]
        by_cases h5 : 4 < r
        · have u9 : decide ((4 : Int) < (r : Int)) = true := by simp; omega
          have X := Lib.hid (show UnzSay w fin rest (.returned (.tuple #[.slice none 0 0, .int .i64 25])) W from ⟨FINB.out, Or.inr (Or.inr (Or.inr (Or.inl ⟨HBB.out.2.2.2, by rw [HRL.out]; exact h5, by rw [← HNM.out.1, ← HNM.out.2]; exact hNM, rfl⟩)))⟩)
          clear h5
          subst hNM
          go_wp2_with fail
          go_ret2
          exact X.out
        · have u9 : decide ((4 : Int) < (r : Int)) = false := by simp; omega
          have X := Lib.hid (show UnzSay w fin rest (.returned (.tuple #[.slice aa fin.out.length cap, .int .i64 0])) W from ⟨FINB.out, Or.inr (Or.inr (Or.inr (Or.inr ⟨HBB.out.2.2.2, by rw [HRL.out]; omega, by rw [← HNM.out.1, ← HNM.out.2]; exact hNM, aa, cap, rfl, FINO.out⟩)))⟩)
          clear h5
          subst hNM
          go_wp2_with fail
          go_ret2
          exact X.out
      · have u1 : ((N : Int) != (M : Int)) = true := by simp; omega
        have u2 : ((N : Int) == (M : Int)) = false := by simp; omega
        have u3 : decide ((N : Int) = (M : Int)) = false := by simp; omega
        have u4 : decide (¬ (N : Int) = (M : Int)) = true := by simp; omega
        have X := Lib.hid (show UnzSay w fin rest (.returned (.tuple #[.slice none 0 0, .int .i64 23])) W from ⟨FINB.out, Or.inr (Or.inr (Or.inl ⟨HBB.out.2.2.2, by rw [HRL.out]; omega, by rw [← HNM.out.1, ← HNM.out.2]; exact hNM, rfl⟩))⟩)
        go_wp2_with fail
        go_ret2
        exact X.out
end Go.Proofs.YtpmoknnhgginjaaDoor.Pr

/- The document's codes: Make. -/
namespace Go.Proofs.YtpmoknnhgginjaaDoor.Pr
open Go.RowKit Lzz Ref
set_option linter.unusedVariables false

set_option maxRecDepth 100000 in
set_option maxHeartbeats 1600000 in
theorem make_any (w : World) (a : Option Addr) (n c : Nat) (zs : List Int) (h : Hu.Ints w a n zs) (hm : Hu.mayCode zs = true) :
    Calls Tryd.prog 24 #[.slice a n c] w fun e w' => ∃ g, e = .returned (.agg #[.slice a n c, .slice (some ⟨g, 0, none⟩) n n, .int .i64 (Hu.weightZ zs : Nat), .bool true]) ∧ Hu.Ints w' (some ⟨g, 0, none⟩) n (Hu.codesZ zs) ∧ Below w.heap.size w w' := by
  have hl : Hu.lensOk zs = true := by unfold Hu.mayCode at hm; rw [Bool.and_eq_true] at hm; exact hm.1
  have hn : n ≤ 16777216 := by have := may_len hm; have := h.1; omega
  obtain ⟨W, hW⟩ : ∃ W, W = w.alloc (.cells #[.slice none 0 0, .slice none 0 0, .int .i64 0, .bool false] 37) := ⟨_, rfl⟩
  obtain ⟨r, hr⟩ : ∃ r, r = w.heap.size := ⟨_, rfl⟩
  have hb : Below w.heap.size w W := by rw [hW]; exact (Below.refl _ _).alloc (Nat.le_refl _) _
  have hrb : W.heap[r]? = some (.cells #[.slice none 0 0, .slice none 0 0, .int .i64 0, .bool false] 37 (0, 0)) := by rw [hW, hr]; exact heap_alloc_new _ _
  have hrW : r < W.heap.size := lt_of_block hrb
  have CW := Hu.docWeight_any W a n c zs (h.below hb) hn
  rw [hl] at CW
  have CW := Lib.hid CW
  have CC := Lib.hid (Hu.docCodes_yes W a n c zs (h.below hb) hn hm)
  have H := Lib.hid (And.intro hb (And.intro hrb (And.intro hrW (And.intro hr (And.intro hm h.1)))))
  generalize Hu.weightZ zs = wt at *
  clear h hl hb hrb hrW hm
  go_enter Tryd.func24, Tryd.ntmps24
  go_upto_region 1 with fail
  rw [← hW, ← hr]
  clear hW hr
  go_wp2_with fail
  refine CW.out.mono ?_
  rintro e1 w1 ⟨rfl, hw1⟩
  obtain rfl := hw1.symm
  go_wp2_with fail
  refine CC.out.mono ?_
  intro e2 w2 h2
  obtain ⟨g, rfl, hi, hb2⟩ := Hu.told_ints h2 H.out.2.2.2.2.1 H.out.2.2.2.2.2
  have hrb := (hb2.block r H.out.2.2.1).trans H.out.2.1
  have c0 : w2.cell? ⟨r, 0, none⟩ = some (.slice none 0 0) := by simp [World.cell?, hrb]
  have c1 : w2.cell? ⟨r, 1, none⟩ = some (.slice none 0 0) := by simp [World.cell?, hrb]
  have c2 : w2.cell? ⟨r, 2, none⟩ = some (.int .i64 0) := by simp [World.cell?, hrb]
  have c3 : w2.cell? ⟨r, 3, none⟩ = some (.bool false) := by simp [World.cell?, hrb]
  have cf : ∀ i, w2.frozen? ⟨r, i, none⟩ = false := fun i => by simp [World.frozen?, hrb]
  have HG := Lib.hid (show ((((w2.setCell ⟨r, 0, none⟩ (.slice a n c)).setCell ⟨r, 1, none⟩ (.slice (some ⟨g, 0, none⟩) n n)).setCell ⟨r, 2, none⟩ (.int .i64 wt)).setCell ⟨r, 3, none⟩ (.bool true)).heap[r]? = some (.cells #[.slice a n c, .slice (some ⟨g, 0, none⟩) n n, .int .i64 wt, .bool true] 37 (0, 0)) from by
    rw [block_set (block_set (block_set (block_set hrb _) _) _)]; rfl)
  have HF := Lib.hid (And.intro hi hb2)
  have HH := Lib.hid (show ∀ W9, W9 = ((((w2.setCell ⟨r, 0, none⟩ (.slice a n c)).setCell ⟨r, 1, none⟩ (.slice (some ⟨g, 0, none⟩) n n)).setCell ⟨r, 2, none⟩ (.int .i64 wt)).setCell ⟨r, 3, none⟩ (.bool true)) → Hu.Ints W9 (some ⟨g, 0, none⟩) n (Hu.codesZ zs) ∧ Below w.heap.size w W9 from by
    rintro W9 rfl
    have hk : ∀ k, k ≠ r → ((((w2.setCell ⟨r, 0, none⟩ (.slice a n c)).setCell ⟨r, 1, none⟩ (.slice (some ⟨g, 0, none⟩) n n)).setCell ⟨r, 2, none⟩ (.int .i64 wt)).setCell ⟨r, 3, none⟩ (.bool true)).heap[k]? = w2.heap[k]? := fun k hk => (Below.heap_setCell _ _ _ _ hk).trans ((Below.heap_setCell _ _ _ _ hk).trans ((Below.heap_setCell _ _ _ _ hk).trans (Below.heap_setCell _ _ _ _ hk)))
    obtain ⟨g9, e9, hg9, hrow9, _⟩ := h2
    simp only [Ending.returned.injEq, Value.tuple.injEq, Array.mk.injEq, List.cons.injEq, Value.slice.injEq, Option.some.injEq, Addr.mk.injEq, and_true, true_and] at e9
    have hgr : g ≠ r := by have := H.out.2.2.1; omega
    obtain ⟨i1, i2, i3⟩ := HF.out.1
    refine ⟨⟨i1, i2, fun hp => ?_⟩, ?_⟩
    · obtain ⟨b, o, e, hc⟩ := i3 hp
      simp only [Option.some.injEq, Addr.mk.injEq, and_true] at e
      obtain ⟨rfl, rfl⟩ := e
      exact ⟨g, 0, rfl, fun j y hj => (World.cell?_of_block (w := w2) (hk g hgr)).trans (hc j y hj)⟩
    · have hrw : w.heap.size ≤ r := by rw [H.out.2.2.2.1]; exact Nat.le_refl _
      exact below_set (below_set (below_set (below_set (below_more H.out.1 HF.out.2 (Nat.le_refl _)) hrw _) hrw _) hrw _) hrw _)
  clear h2 hi hb2 hrb CC CW
  go_wp2_with fail
  refine bodyPost_ret (results_cell_row rfl _ _ r 37 #[.slice a n c, .slice (some ⟨g, 0, none⟩) n n, .int .i64 wt, .bool true] (0, 0) _ rfl ?hg Tryd.underlying37 rfl (by kernel_rfl)) rfl ?_
  case hg => exact HG.out
  obtain ⟨q1, q2⟩ := HH.out _ rfl
  exact ⟨g, rfl, q1, q2⟩
end Go.Proofs.YtpmoknnhgginjaaDoor.Pr

/- The document's fixed codes. -/
namespace Go.Proofs.YtpmoknnhgginjaaDoor.Pr
open Go.RowKit Lzz Ref
set_option linter.unusedVariables false

theorem results_cell2 {P : Program} {fn : Func} {p q : Tmp} {ty : TypeId} (h : fn.results = #[.cell p ty, .cell q ty]) (tmps : Array Value) (w : World) (g r : Nat) (t : TypeId) (cs ds : Array Value) (fr : Nat × Nat) (d : TypeDesc)
    (hp : tmps.getD p undef = .pointer (some ⟨g, 0, none⟩)) (hq : tmps.getD q undef = .pointer (some ⟨r, 0, none⟩)) (hg : w.heap[g]? = some (.cells cs t fr)) (hr : w.heap[r]? = some (.cells ds t fr))
    (hu : P.underlying ty = some d) (hd : (match d with | .struct _ | .array _ _ => true | _ => false) = true) (hi : (P.info? ty).map (·.size) = some cs.size) (hj : (P.info? ty).map (·.size) = some ds.size) :
    (results fn tmps).run P w = .ok (.tuple #[.agg cs, .agg ds]) w := by
  have hp' : tmps[p]?.getD undef = .pointer (some ⟨g, 0, none⟩) := by simpa using hp
  have hq' : tmps[q]?.getD undef = .pointer (some ⟨r, 0, none⟩) := by simpa using hq
  simp [results, h, hp', hq', asAddr, run_loadVar_row w g t ty cs fr d hg hu hd hi, run_loadVar_row w r t ty ds fr d hr hu hd hj]

/-- A code that is not set yet. -/
def zeroCode : Obj := .cells #[.slice none 0 0, .slice none 0 0, .int .i64 0, .bool false] 37
/-- Two codes to be told, a row of lengths under way. -/
structure FX (w : World) (r0 r1 A n : Nat) (h1 : Nat → Int) (W : World) : Prop where
  below : Below w.heap.size w W
  c0 : W.heap[r0]? = some zeroCode
  c1 : W.heap[r1]? = some zeroCode
  row : Hu.Row W A n h1
  at_ : w.heap.size ≤ r0 ∧ w.heap.size ≤ r1 ∧ w.heap.size ≤ A
  ne : A ≠ r0 ∧ A ≠ r1 ∧ r0 ≠ r1
theorem FX.set {w W : World} {r0 r1 A n : Nat} {h1 : Nat → Int} (h : FX w r0 r1 A n h1 W) (i : Nat) (hi : i < n) (z : Int) : FX w r0 r1 A n (fun j => if j = i then z else h1 j) (W.setCell ⟨A, i, none⟩ (.int .i64 z)) := by
  obtain ⟨n1, n2, n3⟩ := h.ne
  exact ⟨below_set h.below h.at_.2.2 _, (Below.heap_setCell _ _ _ _ (fun e => n1 e.symm)).trans h.c0, (Below.heap_setCell _ _ _ _ (fun e => n2 e.symm)).trans h.c1, h.row.set hi (fun j _ => rfl), h.at_, h.ne⟩
theorem FX.congr {w W : World} {r0 r1 A n : Nat} {h1 h2 : Nat → Int} (h : FX w r0 r1 A n h1 W) (he : ∀ j, j < n → h2 j = h1 j) : FX w r0 r1 A n h2 W := ⟨h.below, h.c0, h.c1, h.row.congr he, h.at_, h.ne⟩
theorem FX.next {w W : World} {r0 r1 A n : Nat} {i : Nat} {z : Int} (h : FX w r0 r1 A n (fun s => if s = i then z else if s < i then lenL s else 0) W) (hz : z = lenL i) : FX w r0 r1 A n (fun s => if s < i + 1 then lenL s else 0) W := h.congr fun j _ => by
  by_cases e : j = i
  · subst e; rw [if_pos (by omega), if_pos rfl, hz]
  · rw [if_neg e]
    by_cases h : j < i
    · rw [if_pos (by omega), if_pos h]
    · rw [if_neg (by omega), if_neg h]
theorem FX.over {w W : World} {r0 r1 A n i : Nat} {x y : Int} {h1 : Nat → Int} (h : FX w r0 r1 A n (fun j => if j = i then y else if j = i then x else h1 j) W) : FX w r0 r1 A n (fun j => if j = i then y else h1 j) W := h.congr fun j _ => by
  by_cases e : j = i
  · rw [if_pos e, if_pos e]
  · rw [if_neg e, if_neg e, if_neg e]
theorem ints_ne {w : World} {g r n : Nat} {zs : List Int} (h : Hu.Ints w (some ⟨g, 0, none⟩) n zs) (hn : 0 < n) (hr : w.heap[r]? = some zeroCode) : g ≠ r := by
  rintro rfl
  obtain ⟨h1, h2, h3⟩ := h
  obtain ⟨b, o, e, hc⟩ := h3 hn
  simp only [Option.some.injEq, Addr.mk.injEq, and_true] at e
  obtain ⟨rfl, rfl⟩ := e
  have hj : zs[0]? = some (zs.getD 0 0) := by rw [List.getD_eq_getElem?_getD, List.getElem?_eq_getElem (by omega)]; rfl
  have := hc 0 _ hj
  simp [World.cell?, hr, zeroCode] at this
theorem set4 {w : World} {r : Nat} (h : w.heap[r]? = some zeroCode) (v0 v1 v2 v3 : Value) : ((((w.setCell ⟨r, 0, none⟩ v0).setCell ⟨r, 1, none⟩ v1).setCell ⟨r, 2, none⟩ v2).setCell ⟨r, 3, none⟩ v3).heap[r]? = some (.cells #[v0, v1, v2, v3] 37 (0, 0)) ∧ ∀ k, k ≠ r → ((((w.setCell ⟨r, 0, none⟩ v0).setCell ⟨r, 1, none⟩ v1).setCell ⟨r, 2, none⟩ v2).setCell ⟨r, 3, none⟩ v3).heap[k]? = w.heap[k]? := by
  refine ⟨?_, fun k hk => (Below.heap_setCell _ _ _ _ hk).trans ((Below.heap_setCell _ _ _ _ hk).trans ((Below.heap_setCell _ _ _ _ hk).trans (Below.heap_setCell _ _ _ _ hk)))⟩
  unfold zeroCode at h
  rw [block_set (block_set (block_set (block_set h _) _) _)]; rfl
theorem ints_at {w w' : World} {g n : Nat} {zs : List Int} (h : Hu.Ints w (some ⟨g, 0, none⟩) n zs) (hk : w'.heap[g]? = w.heap[g]?) : Hu.Ints w' (some ⟨g, 0, none⟩) n zs := ints_keep h (fun x hx => by cases hx; exact hk)
/-- What Fixed tells. -/
def FixedSay (w : World) (e : Ending) (w' : World) : Prop :=
  ∃ (a b c d : Nat), e = .returned (.tuple #[.agg #[.slice (some ⟨a, 0, none⟩) 288 288, .slice (some ⟨b, 0, none⟩) 288 288, .int .i64 (Hu.weightZ fixL : Nat), .bool true], .agg #[.slice (some ⟨c, 0, none⟩) 32 32, .slice (some ⟨d, 0, none⟩) 32 32, .int .i64 (Hu.weightZ fixD : Nat), .bool true]]) ∧
    Hu.Ints w' (some ⟨a, 0, none⟩) 288 fixL ∧ Hu.Ints w' (some ⟨b, 0, none⟩) 288 (Hu.codesZ fixL) ∧ Hu.Ints w' (some ⟨c, 0, none⟩) 32 fixD ∧ Hu.Ints w' (some ⟨d, 0, none⟩) 32 (Hu.codesZ fixD) ∧ Below w.heap.size w w'
set_option maxRecDepth 100000 in
set_option maxHeartbeats 3200000 in
theorem fixed_any (w : World) : Calls Tryd.prog 12 #[] w (FixedSay w) := by
  obtain ⟨Z1, hZ1⟩ : ∃ Z1, Z1 = madeCells #[Value.int .i64 0] 288 := ⟨_, rfl⟩
  obtain ⟨Z2, hZ2⟩ : ∃ Z2, Z2 = madeCells #[Value.int .i64 0] 32 := ⟨_, rfl⟩
  have hm1 : ∀ w : World, (Instr.makeSlice 35 (.int .i64 288) (.int .i64 288)).run Tryd.prog w = .ok (.slice (some ⟨w.heap.size, 0, none⟩) 288 288) (w.alloc (.cells Z1 3)) := fun w => by rw [hZ1]; exact run_make_ints w 288 (by omega)
  have hm2 : ∀ w : World, (Instr.makeSlice 35 (.int .i64 32) (.int .i64 32)).run Tryd.prog w = .ok (.slice (some ⟨w.heap.size, 0, none⟩) 32 32) (w.alloc (.cells Z2 3)) := fun w => by rw [hZ2]; exact run_make_ints w 32 (by omega)
  have HZ := Lib.hid (And.intro hZ1 hZ2)
  clear hZ1 hZ2
  go_enter Tryd.func12, Tryd.ntmps12
  go_upto_region 2 with fail
  obtain ⟨W, hW⟩ : ∃ W, W = ((w.alloc (.cells #[.slice none 0 0, .slice none 0 0, .int .i64 0, .bool false] 37)).alloc (.cells #[.slice none 0 0, .slice none 0 0, .int .i64 0, .bool false] 37)).alloc (.cells Z1 3) := ⟨_, rfl⟩
  obtain ⟨r0, hr0⟩ : ∃ r0, r0 = w.heap.size := ⟨_, rfl⟩
  obtain ⟨r1, hr1⟩ : ∃ r1, r1 = w.heap.size + 1 := ⟨_, rfl⟩
  obtain ⟨A, hA⟩ : ∃ A, A = w.heap.size + 1 + 1 := ⟨_, rfl⟩
  have hst : FX w r0 r1 A 288 (fun s => if s < 0 then lenL s else 0) W := by
    have s1 : (w.alloc zeroCode).heap.size = w.heap.size + 1 := Array.size_push _
    have s2 : ((w.alloc zeroCode).alloc zeroCode).heap.size = w.heap.size + 1 + 1 := (Array.size_push _).trans (by omega)
    have e1 : (w.alloc zeroCode).heap[w.heap.size]? = some zeroCode := heap_alloc_new _ _
    have e2 : ((w.alloc zeroCode).alloc zeroCode).heap[w.heap.size + 1]? = some zeroCode := by rw [← s1]; exact heap_alloc_new _ _
    have e3 : (((w.alloc zeroCode).alloc zeroCode).alloc (.cells Z1 3)).heap[w.heap.size + 1 + 1]? = some (.cells Z1 3) := by rw [← s2]; exact heap_alloc_new _ _
    rw [hW, hr0, hr1, hA]
    refine ⟨(((Below.refl w.heap.size w).alloc (Nat.le_refl _) _).alloc (by show _ ≤ (w.alloc zeroCode).heap.size; omega) _).alloc (by show _ ≤ ((w.alloc zeroCode).alloc zeroCode).heap.size; omega) _, ?_, ?_, ?_, ⟨by omega, by omega, by omega⟩, ⟨by omega, by omega, by omega⟩⟩
    · exact (Below.heap_alloc _ _ _ (by show _ < ((w.alloc zeroCode).alloc zeroCode).heap.size; omega)).trans ((Below.heap_alloc _ _ _ (by show _ < (w.alloc zeroCode).heap.size; omega)).trans e1)
    · exact (Below.heap_alloc _ _ _ (by show _ < ((w.alloc zeroCode).alloc zeroCode).heap.size; omega)).trans e2
    · exact ⟨_, e3, by rw [HZ.out.1, size_madeCells]; exact Nat.le_refl _, fun j hj => by rw [HZ.out.1]; simp [madeCells, hj, Nat.mod_one]⟩
  rw [← hA, ← hr1, ← hr0, ← hW]
  have HST := Lib.hid hst
  clear hst hW hr0 hr1 hA hm1
  go_wp2
  go_loopw [3] (fun kv wl => ∃ j : Nat, j ≤ 288 ∧ kv = .int .i64 j ∧ FX w r0 r1 A 288 (fun s => if s < j then lenL s else 0) wl) (fun kv _ => 288 - (intOf kv).toNat)
  case atStart => exact ⟨0, by omega, rfl, HST.out⟩
  case round =>
    clear HST
    obtain ⟨j, hj, rfl, hF⟩ := hrel
    by_cases hlt : j < 288
    · obtain ⟨hc1, hc2⟩ := hF.row.cell hlt
      simp only [Nat.lt_irrefl, if_false] at hc1
      have F1 := hF.set j hlt 8
      have F2 := (F1.set j hlt 9).over
      have F3 := (F2.set j hlt 7).over
      have F4 := (F3.set j hlt 8).over
      obtain ⟨k1, k1f⟩ := F1.row.cell hlt
      obtain ⟨k2, k2f⟩ := F2.row.cell hlt
      obtain ⟨k3, k3f⟩ := F3.row.cell hlt
      simp only [if_true] at k1 k2 k3
      have H1 := Lib.hid F1
      have H2 := Lib.hid F2
      have H3 := Lib.hid F3
      have H4 := Lib.hid F4
      clear hF F1 F2 F3 F4
      by_cases a1 : j < 144
      · have X := Lib.hid (show FX w r0 r1 A 288 (fun s => if s < j + 1 then lenL s else 0) _ from FX.next H1.out (by unfold lenL; rw [if_pos a1]))
        have u1 : decide ((144 : Int) ≤ (j : Int)) = false := by simp; omega
        have u2 : decide ((256 : Int) ≤ (j : Int)) = false := by simp; omega
        have u3 : decide ((280 : Int) ≤ (j : Int)) = false := by simp; omega
        go_wp2
        go_roundw
        case rel => exact ⟨j + 1, hlt, by go_num, X.out⟩
        case measure => simp [intOf] <;> omega
      · by_cases a2 : j < 256
        · have X := Lib.hid (show FX w r0 r1 A 288 (fun s => if s < j + 1 then lenL s else 0) _ from FX.next H2.out (by unfold lenL; rw [if_neg a1, if_pos a2]))
          have u1 : decide ((144 : Int) ≤ (j : Int)) = true := by simp; omega
          have u2 : decide ((256 : Int) ≤ (j : Int)) = false := by simp; omega
          have u3 : decide ((280 : Int) ≤ (j : Int)) = false := by simp; omega
          go_wp2
          go_roundw
          case rel => exact ⟨j + 1, hlt, by go_num, X.out⟩
          case measure => simp [intOf] <;> omega
        · by_cases a3 : j < 280
          · have X := Lib.hid (show FX w r0 r1 A 288 (fun s => if s < j + 1 then lenL s else 0) _ from FX.next H3.out (by unfold lenL; rw [if_neg a1, if_neg a2, if_pos a3]))
            have u1 : decide ((144 : Int) ≤ (j : Int)) = true := by simp; omega
            have u2 : decide ((256 : Int) ≤ (j : Int)) = true := by simp; omega
            have u3 : decide ((280 : Int) ≤ (j : Int)) = false := by simp; omega
            go_wp2
            go_roundw
            case rel => exact ⟨j + 1, hlt, by go_num, X.out⟩
            case measure => simp [intOf] <;> omega
          · have X := Lib.hid (show FX w r0 r1 A 288 (fun s => if s < j + 1 then lenL s else 0) _ from FX.next H4.out (by unfold lenL; rw [if_neg a1, if_neg a2, if_neg a3]))
            have u1 : decide ((144 : Int) ≤ (j : Int)) = true := by simp; omega
            have u2 : decide ((256 : Int) ≤ (j : Int)) = true := by simp; omega
            have u3 : decide ((280 : Int) ≤ (j : Int)) = true := by simp; omega
            go_wp2
            go_roundw
            case rel => exact ⟨j + 1, hlt, by go_num, X.out⟩
            case measure => simp [intOf] <;> omega
    · obtain rfl : j = 288 := by omega
      have hF2 : FX w r0 r1 A 288 lenL wr := hF.congr fun j hj => by rw [if_pos hj]
      have hA288 : Hu.Ints wr (some ⟨A, 0, none⟩) 288 fixL := by
        refine hF2.row.ints (by simp [fixL]) ?_ ?_
        · intro z hz
          simp only [fixL, List.mem_map] at hz
          obtain ⟨s, _, rfl⟩ := hz
          split
          · omega
          · split
            · omega
            · split <;> omega
        · intro j hj
          simp only [fixL, List.getElem?_map, List.getElem?_range hj, Option.map_some, lenL]
      obtain ⟨C, hC⟩ : ∃ C, C = wr.heap.size := ⟨_, rfl⟩
      obtain ⟨W2, hW2⟩ : ∃ W2, W2 = wr.alloc (.cells Z2 3) := ⟨_, rfl⟩
      have hb2 : Below wr.heap.size wr W2 := by rw [hW2]; exact (Below.refl _ _).alloc (Nat.le_refl _) _
      have hC2 : W2.heap[C]? = some (.cells Z2 3) := by rw [hW2, hC]; exact heap_alloc_new _ _
      have hlt0 : r0 < wr.heap.size := lt_of_block hF2.c0
      have hlt1 : r1 < wr.heap.size := lt_of_block hF2.c1
      have hG : FX w r0 r1 C 32 (fun s => if s < 0 then 5 else 0) W2 := ⟨below_more hF2.below hb2 (Nat.le_refl _), (hb2.block _ hlt0).trans hF2.c0, (hb2.block _ hlt1).trans hF2.c1,
        ⟨_, hC2, by rw [HZ.out.2, size_madeCells]; exact Nat.le_refl _, fun j hj => by rw [HZ.out.2]; simp [madeCells, hj, Nat.mod_one]⟩, ⟨hF2.at_.1, hF2.at_.2.1, by rw [hC]; exact hF2.below.size⟩, ⟨by omega, by omega, hF2.ne.2.2⟩⟩
      have HG := Lib.hid (And.intro hG (hA288.below hb2))
      have HAC := Lib.hid (show A ≠ C from by have := Hu.Row.lt hF2.row; omega)
      clear hF hF2 hA288 hb2 hC2 hlt0 hlt1 hG
      go_upto_region 14 with fail
      rw [← hC, ← hW2]
      clear hC hW2 hm2
      go_loopw [5] (fun kv wl => ∃ j : Nat, j ≤ 32 ∧ kv = .int .i64 j ∧ FX w r0 r1 C 32 (fun s => if s < j then 5 else 0) wl ∧ Hu.Ints wl (some ⟨A, 0, none⟩) 288 fixL) (fun kv _ => 32 - (intOf kv).toNat)
      case atStart => exact ⟨0, by omega, rfl, HG.out⟩
      case round =>
        clear HG
        obtain ⟨j, hj, rfl, hF, hI⟩ := hrel
        by_cases hlt : j < 32
        · obtain ⟨hc1, hc2⟩ := hF.row.cell hlt
          simp only [Nat.lt_irrefl, if_false] at hc1
          have X := Lib.hid (show FX w r0 r1 C 32 (fun s => if s < j + 1 then 5 else 0) (wr.setCell ⟨C, j, none⟩ (.int .i64 5)) from (hF.set j hlt 5).congr fun i _ => by
            by_cases e : i = j
            · subst e; rw [if_pos (by omega), if_pos rfl]
            · rw [if_neg e]
              by_cases h : i < j
              · rw [if_pos (by omega), if_pos h]
              · rw [if_neg (by omega), if_neg h])
          have XI := Lib.hid (show Hu.Ints (wr.setCell ⟨C, j, none⟩ (.int .i64 5)) (some ⟨A, 0, none⟩) 288 fixL from by
            obtain ⟨i1, i2, i3⟩ := hI
            refine ⟨i1, i2, fun hp => ?_⟩
            obtain ⟨b, o, e, hc⟩ := i3 hp
            simp only [Option.some.injEq, Addr.mk.injEq, and_true] at e
            obtain ⟨rfl, rfl⟩ := e
            exact ⟨A, 0, rfl, fun j y hj => (World.cell?_of_block (w := wr) (Below.heap_setCell _ _ _ _ HAC.out)).trans (hc j y hj)⟩)
          clear hF hI
          go_wp2
          go_roundw
          case rel => exact ⟨j + 1, hlt, by go_num, X.out, XI.out⟩
          case measure => simp [intOf] <;> omega
        · obtain rfl : j = 32 := by omega
          have hF2 : FX w r0 r1 C 32 (fun _ => 5) wr := hF.congr fun j hj => by rw [if_pos hj]
          have hC32 : Hu.Ints wr (some ⟨C, 0, none⟩) 32 fixD := by
            refine hF2.row.ints (by simp [fixD]) ?_ ?_
            · intro z hz
              have := List.eq_of_mem_replicate hz
              omega
            · intro j hj
              simp only [fixD, List.getElem?_replicate, hj, if_true]
          have M1 := Lib.hid (make_any wr (some ⟨A, 0, none⟩) 288 288 fixL hI fixL_may)
          have HF := Lib.hid (And.intro hF2 (And.intro hI hC32))
          clear hF hF2 hI hC32
          go_wp2_with fail
          refine M1.out.mono ?_
          rintro e3 w3 ⟨g1, rfl, hi3, hb3⟩
          have M2 := Lib.hid (make_any w3 (some ⟨C, 0, none⟩) 32 32 fixD (HF.out.2.2.below hb3) fixD_may)
          have H3 := Lib.hid (And.intro hi3 hb3)
          clear hi3 hb3 M1
          go_wp2_with fail
          refine M2.out.mono ?_
          rintro e4 w4 ⟨g2, rfl, hi4, hb4⟩
          have hlt0 := lt_of_block HF.out.1.c0
          have hlt1 := lt_of_block HF.out.1.c1
          have hb34 : Below wr.heap.size wr w4 := below_more H3.out.2 hb4 (Nat.le_refl _)
          have q0 := (hb34.block r0 hlt0).trans HF.out.1.c0
          have q1 := (hb34.block r1 hlt1).trans HF.out.1.c1
          unfold zeroCode at q0 q1
          have hne := HF.out.1.ne.2.2
          obtain ⟨wL, hwL⟩ : ∃ wL, wL = Hu.weightZ fixL := ⟨_, rfl⟩
          obtain ⟨wD, hwD⟩ : ∃ wD, wD = Hu.weightZ fixD := ⟨_, rfl⟩
          rw [← hwL, ← hwD]
          have HW := Lib.hid (And.intro hwL hwD)
          have c00 : w4.cell? ⟨r0, 0, none⟩ = some (.slice none 0 0) := by simp [World.cell?, q0]
          have c01 : w4.cell? ⟨r0, 1, none⟩ = some (.slice none 0 0) := by simp [World.cell?, q0]
          have c02 : w4.cell? ⟨r0, 2, none⟩ = some (.int .i64 0) := by simp [World.cell?, q0]
          have c03 : w4.cell? ⟨r0, 3, none⟩ = some (.bool false) := by simp [World.cell?, q0]
          have c0f : ∀ i, w4.frozen? ⟨r0, i, none⟩ = false := fun i => by simp [World.frozen?, q0]
          have c10 : w4.cell? ⟨r1, 0, none⟩ = some (.slice none 0 0) := by simp [World.cell?, q1]
          have c11 : w4.cell? ⟨r1, 1, none⟩ = some (.slice none 0 0) := by simp [World.cell?, q1]
          have c12 : w4.cell? ⟨r1, 2, none⟩ = some (.int .i64 0) := by simp [World.cell?, q1]
          have c13 : w4.cell? ⟨r1, 3, none⟩ = some (.bool false) := by simp [World.cell?, q1]
          have c1f : ∀ i, w4.frozen? ⟨r1, i, none⟩ = false := fun i => by simp [World.frozen?, q1]
          have hne' : r1 ≠ r0 := fun e => hne e.symm
          have H4 := True.intro
          have FIN := Lib.hid (show ∀ W9, W9 = (((((((((w4.setCell ⟨r0, 0, none⟩ (.slice (some ⟨A, 0, none⟩) 288 288)).setCell ⟨r0, 1, none⟩ (.slice (some ⟨g1, 0, none⟩) 288 288)).setCell ⟨r0, 2, none⟩ (.int .i64 wL)).setCell ⟨r0, 3, none⟩ (.bool true)).setCell ⟨r1, 0, none⟩ (.slice (some ⟨C, 0, none⟩) 32 32)).setCell ⟨r1, 1, none⟩ (.slice (some ⟨g2, 0, none⟩) 32 32)).setCell ⟨r1, 2, none⟩ (.int .i64 wD)).setCell ⟨r1, 3, none⟩ (.bool true))) →
              W9.heap[r0]? = some (.cells #[.slice (some ⟨A, 0, none⟩) 288 288, .slice (some ⟨g1, 0, none⟩) 288 288, .int .i64 wL, .bool true] 37 (0, 0)) ∧ W9.heap[r1]? = some (.cells #[.slice (some ⟨C, 0, none⟩) 32 32, .slice (some ⟨g2, 0, none⟩) 32 32, .int .i64 wD, .bool true] 37 (0, 0)) ∧
              Hu.Ints W9 (some ⟨A, 0, none⟩) 288 fixL ∧ Hu.Ints W9 (some ⟨g1, 0, none⟩) 288 (Hu.codesZ fixL) ∧ Hu.Ints W9 (some ⟨C, 0, none⟩) 32 fixD ∧ Hu.Ints W9 (some ⟨g2, 0, none⟩) 32 (Hu.codesZ fixD) ∧ Below w.heap.size w W9 from by
            rintro W9 rfl
            obtain ⟨s1, s2⟩ := set4 (w := w4) (r := r0) q0 (.slice (some ⟨A, 0, none⟩) 288 288) (.slice (some ⟨g1, 0, none⟩) 288 288) (.int .i64 wL) (.bool true)
            obtain ⟨s3, s4⟩ := set4 (w := ((((w4.setCell ⟨r0, 0, none⟩ (.slice (some ⟨A, 0, none⟩) 288 288)).setCell ⟨r0, 1, none⟩ (.slice (some ⟨g1, 0, none⟩) 288 288)).setCell ⟨r0, 2, none⟩ (.int .i64 wL)).setCell ⟨r0, 3, none⟩ (.bool true))) (r := r1) ((s2 r1 hne').trans q1) (.slice (some ⟨C, 0, none⟩) 32 32) (.slice (some ⟨g2, 0, none⟩) 32 32) (.int .i64 wD) (.bool true)
            have iA : Hu.Ints w4 (some ⟨A, 0, none⟩) 288 fixL := HF.out.2.1.below hb34
            have iC : Hu.Ints w4 (some ⟨C, 0, none⟩) 32 fixD := HF.out.2.2.below hb34
            have i1 : Hu.Ints w4 (some ⟨g1, 0, none⟩) 288 (Hu.codesZ fixL) := H3.out.1.below hb4
            have keep : ∀ k, k ≠ r0 → k ≠ r1 → (((((((((w4.setCell ⟨r0, 0, none⟩ (.slice (some ⟨A, 0, none⟩) 288 288)).setCell ⟨r0, 1, none⟩ (.slice (some ⟨g1, 0, none⟩) 288 288)).setCell ⟨r0, 2, none⟩ (.int .i64 wL)).setCell ⟨r0, 3, none⟩ (.bool true)).setCell ⟨r1, 0, none⟩ (.slice (some ⟨C, 0, none⟩) 32 32)).setCell ⟨r1, 1, none⟩ (.slice (some ⟨g2, 0, none⟩) 32 32)).setCell ⟨r1, 2, none⟩ (.int .i64 wD)).setCell ⟨r1, 3, none⟩ (.bool true))).heap[k]? = w4.heap[k]? := fun k h0 h1 => (s4 k h1).trans (s2 k h0)
            have hw0 := HF.out.1.at_.1
            have hw1 := HF.out.1.at_.2.1
            refine ⟨(s4 r0 hne).trans s1, s3, ints_at iA (keep _ (ints_ne iA (by omega) q0) (ints_ne iA (by omega) q1)), ints_at i1 (keep _ (ints_ne i1 (by omega) q0) (ints_ne i1 (by omega) q1)), ints_at iC (keep _ (ints_ne iC (by omega) q0) (ints_ne iC (by omega) q1)), ints_at hi4 (keep _ (ints_ne hi4 (by omega) q0) (ints_ne hi4 (by omega) q1)), ?_⟩
            exact below_set (below_set (below_set (below_set (below_set (below_set (below_set (below_set (below_more HF.out.1.below hb34 (Nat.le_refl _)) hw0 _) hw0 _) hw0 _) hw0 _) hw1 _) hw1 _) hw1 _) hw1 _)
          clear hi4 hb4 hb34 q0 q1 hlt0 hlt1 M2 hwL hwD H4
          go_wp2_with fail
          obtain ⟨W9, hW9⟩ : ∃ W9, W9 = (((((((((w4.setCell ⟨r0, 0, none⟩ (.slice (some ⟨A, 0, none⟩) 288 288)).setCell ⟨r0, 1, none⟩ (.slice (some ⟨g1, 0, none⟩) 288 288)).setCell ⟨r0, 2, none⟩ (.int .i64 wL)).setCell ⟨r0, 3, none⟩ (.bool true)).setCell ⟨r1, 0, none⟩ (.slice (some ⟨C, 0, none⟩) 32 32)).setCell ⟨r1, 1, none⟩ (.slice (some ⟨g2, 0, none⟩) 32 32)).setCell ⟨r1, 2, none⟩ (.int .i64 wD)).setCell ⟨r1, 3, none⟩ (.bool true))) := ⟨_, rfl⟩
          rw [← hW9]
          obtain ⟨f0, f1, f2, f3, f4, f5, f6⟩ := FIN.out W9 hW9
          refine bodyPost_ret (results_cell2 rfl _ _ r0 r1 37 #[.slice (some ⟨A, 0, none⟩) 288 288, .slice (some ⟨g1, 0, none⟩) 288 288, .int .i64 wL, .bool true] #[.slice (some ⟨C, 0, none⟩) 32 32, .slice (some ⟨g2, 0, none⟩) 32 32, .int .i64 wD, .bool true] (0, 0) _ rfl rfl f0 f1 Tryd.underlying37 rfl (by kernel_rfl) (by kernel_rfl)) rfl ?_
          exact ⟨A, g1, C, g2, by rw [← HW.out.1, ← HW.out.2], f2, f3, f4, f5, f6⟩
end Go.Proofs.YtpmoknnhgginjaaDoor.Pr
