/- Sums of points with a denominator, of ratios, said of whole rows. No condition but what each names. -/
import Derived.Test.YtgbliacncahooaaDoorGOpA
import Derived.Test.YtgbliacncahooaaDoorGOvA
import Derived.Test.YtgbliacncahooaaDoorGRPlus
import Derived.Test.YtgbliacncahooaaDoorGSum
namespace Go.Proofs.YtgbliacncahooaaDoor
open Go.RowKit Go.Shelf
set_option linter.unusedVariables false
set_option linter.unusedSimpArgs false
theorem rplus3 (t u : Nat × Nat × Nat) (d : Nat) (ht : B3 t) (hu : B3 u) (hd : d < 115792089237316195423570985008687907853269984665640564039457584007913129639936) (w : World) :
    Calls Tryd.prog 47 #[.agg (threeV t), .agg (threeV u), .agg (num d)] w fun e w' => e = .returned (.agg (threeV (plusD d t u))) ∧ Below w.heap.size w w' := by
  simp only [threeV, plusD]
  exact rplus_any t.1 t.2.1 t.2.2 u.1 u.2.1 u.2.2 d ht.1 ht.2.1 ht.2.2 hu.1 hu.2.1 hu.2.2 hd w
theorem rflat3 (t : Nat × Nat × Nat) (ht : B3 t) (w : World) :
    Calls Tryd.prog 46 #[.agg (threeV t)] w fun e w' => e = .returned (.agg (ptV (flatN t))) ∧ Below w.heap.size w w' := by
  simp only [threeV, flatN, ptV]
  exact rflat_any t.1 t.2.1 t.2.2 ht.1 ht.2.1 ht.2.2 w
theorem sum4 (t u : Rat4) (ht : B4r t) (hu : B4r u) (w : World) (hG : Glob w) :
    Calls Tryd.prog 44 #[.agg (ratV t), .agg (ratV u)] w fun e w' => e = .returned (.agg (ratV (sumR t u))) ∧ Below w.heap.size w w' := by
  simp only [ratV, sumR]
  exact sum_any t.1 t.2.1 t.2.2.1 t.2.2.2 u.1 u.2.1 u.2.2.1 u.2.2.2 ht.1 ht.2.1 ht.2.2.1 ht.2.2.2 hu.1 hu.2.1 hu.2.2.1 hu.2.2.2 w hG
theorem plain4 (t : Rat4) (ht : B4r t) (w : World) :
    Calls Tryd.prog 43 #[.agg (ratV t)] w fun e w' => e = .returned (.agg (ptV (plainR t))) ∧ Below w.heap.size w w' := by
  simp only [ratV, plainR, ptV]
  exact plain_any t.1 t.2.1 t.2.2.1 t.2.2.2 ht.1 ht.2.1 ht.2.2.1 ht.2.2.2 w
end Go.Proofs.YtgbliacncahooaaDoor
