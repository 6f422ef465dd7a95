/- The places that an iterator in memory gives. -/
import Derived.Test.YtgonpaofickffaaTO
import Derived.Test.YtgonpaofickffaaTP
import Derived.Test.YtgonpaofickffaaTQ
namespace Go.Proofs.Ytgonpaofickffaa
open Go.RowKit Go.Maps Go.Shelf
set_option linter.unusedVariables false

theorem Chg.tile {S : St} {p : Pl} {xf xt yf yt i j : Nat} (h : Chg S p xf xt yf yt 0 i j) : p.T i j ≠ none := by
  obtain ⟨-, -, x, y, -, hp⟩ := h
  intro e
  exact hp (by simp [pixAt, e])
theorem Chg.rng {S : St} {p : Pl} {xf xt yf yt v i j : Nat} (h : Chg S p xf xt yf yt v i j) : i < 2048 ∧ j < 2048 ∧ xf / 16 ≤ i ∧ i * 16 < xt ∧ xf < xt ∧ yf / 16 ≤ j ∧ j * 16 < yt ∧ yf < yt := by
  obtain ⟨hi, hj, x, y, hA, -⟩ := h
  unfold InArea at hA
  refine ⟨hi, hj, ?_⟩
  omega
theorem iter_stops (w0 w' : World) (S : St) (h : Rep w' S) (k : Nat) (p : Pl) (hk : S.ps[k]? = some p) (xf xt yf yt v : Nat) (h1 : xf ≤ 32768) (h2 : xt ≤ 32768) (h3 : yf ≤ 32768) (h4 : yt ≤ 32768) (e : Ending) (hi : Iter w0 w' p.mb xf xt yf yt v e) :
    ∃ g B, e = .returned (.func (.func g) #[] #[.pointer (some ⟨B, 0, none⟩)]) ∧ (∀ args w, (callFunc g args).run Try.prog w = .ok (.enter g args) w) ∧ SeqStopsK Fence.wide 1 Try.prog g #[.pointer (some ⟨B, 0, none⟩)] encP KpT (Gives (Chg S p xf xt yf yt v)) (fun pre => pre.Nodup) 4194304 w' := by
  obtain ⟨g, B, rfl, hB, ⟨rfl, rfl, hb⟩ | ⟨rfl, hb⟩⟩ := hi
  · refine ⟨52, B, rfl, enters_of Try.func52 (by kernel_rfl) rfl, ?_⟩
    intro l J Jx W hW hJ hJx hY h0
    have hl := Rep.len h hk
    have h5 := h.room
    have h6 := h.cap
    have hlt := lt_of_block hb
    have hr : Rep W S := h.keep (fun b hb' => hW.block b (h.lt hb'))
    have hb' := (hW.block B hlt).trans hb
    refine (keys1_in l B p.mb p.T p.L 4194304 (by omega) J Jx hY W hJ (by simp [World.cell?, hb']) (hr.plane k p hk).2.1 h0).mono ?_
    rintro e w2 ⟨hv, ⟨xs, hg, hx⟩ | hx⟩
    · exact ⟨hv, .inl ⟨xs, ⟨hg.1, fun i j hc => hg.2 i j hc.tile⟩, hx⟩⟩
    · exact ⟨hv, .inr hx⟩
  · refine ⟨53, B, rfl, enters_of Try.func53 (by kernel_rfl) rfl, ?_⟩
    intro l J Jx W hW hJ hJx hY h0
    have hlt := lt_of_block hb
    have hb' := (hW.block B hlt).trans hb
    refine (places1_in l B xf xt yf yt h1 h2 h3 h4 J Jx hY W hJ hb' h0).mono ?_
    rintro e w2 ⟨hv, ⟨xs, hg, hx⟩ | hx⟩
    · exact ⟨hv, .inl ⟨xs, ⟨hg.1, fun i j hc => hg.2 i j hc.rng⟩, hx⟩⟩
    · exact ⟨hv, .inr hx⟩
/-- The places at which a fill would change a pixel. -/
theorem changing_does (w : World) (S : St) (h : Rep w S) (k : Nat) (p : Pl) (hk : S.ps[k]? = some p) (xf xt yf yt v : Nat) (h1 : xf ≤ 32768) (h2 : xt ≤ 32768) (h3 : yf ≤ 32768) (h4 : yt ≤ 32768) :
    Calls Try.prog 35 #[.pointer (some ⟨p.pb, 0, none⟩), .agg #[.int .i64 (xf : Int), .int .i64 (xt : Int), .int .i64 (yf : Int), .int .i64 (yt : Int)], .int .u32 (v : Int)] w (Told w S p xf xt yf yt v) :=
  changing_any w S h k p hk xf xt yf yt v h1 h2 h3 h4 (fun w0 w' e hr hi => iter_stops w0 w' S hr k p hk xf xt yf yt v h1 h2 h3 h4 e hi)
end Go.Proofs.Ytgonpaofickffaa
