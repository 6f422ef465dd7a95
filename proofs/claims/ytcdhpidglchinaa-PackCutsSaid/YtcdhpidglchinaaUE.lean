/- PackCuts' walk, whole. -/
import Derived.Test.YtcdhpidglchinaaUA
import Derived.Test.YtcdhpidglchinaaUB
import Derived.Test.YtcdhpidglchinaaUC
import Derived.Test.YtcdhpidglchinaaUD
namespace Go.Proofs.Ytcdhpidglchinaa
open Go.RowKit Go.Lib Pk
set_option linter.unusedSimpArgs false
set_option linter.unusedVariables false

theorem cuts_walk (w : World) (e : PEd) (p s q : Hd) (at_ : Int) (h : Hd) (xs : List Nat) (which : Int) (hi : EditIn w e p s q) (h1 : Fit at_) (hx : BytesIn w h xs) (h3 : Fit which) :
    Calls Try.prog 6 #[edV e p s q, .int .i64 at_, .slice h.a h.n h.c, .int .i64 which] w (Yes w) := by
  by_cases n0 : p.n ≤ 300
  · by_cases n1 : s.n ≤ 300
    · by_cases n2 : q.n ≤ 300
      · by_cases n3 : 0 ≤ at_
        · by_cases n4 : 1 ≤ h.n
          · by_cases n5 : h.n ≤ 50
            · by_cases w0 : which = 0
              · exact cuts_kind w e p s q at_ h xs which hi.cells hi.ok hx.1 hx.2 n0 n1 n2 n3 n4 n5 w0
              · by_cases w1 : which = 1
                · exact cuts_at w e p s q at_ h xs which hi.cells hi.ok hx.1 hx.2 n0 n1 n2 n3 n4 n5 w1
                · by_cases w2 : which = 2
                  · exact cuts_map w e p s q at_ h xs which hi.cells hi.ok hx.1 hx.2 n0 n1 n2 n3 n4 n5 w2
                  · exact cuts_pars w e p s q at_ h xs which hi.cells hi.ok hx.1 hx.2 n0 n1 n2 n3 n4 n5 w0 w1 w2
            · exact cuts_early5 w e p s q at_ h which n0 n1 n2 n3 n4 (by omega)
          · exact cuts_early4 w e p s q at_ h which n0 n1 n2 n3 (by omega)
        · exact cuts_early3 w e p s q at_ h which n0 n1 n2 (by omega)
      · exact cuts_early2 w e p s q at_ h which n0 n1 (by omega)
    · exact cuts_early1 w e p s q at_ h which n0 (by omega)
  · exact cuts_early0 w e p s q at_ h which (by omega)
end Go.Proofs.Ytcdhpidglchinaa
