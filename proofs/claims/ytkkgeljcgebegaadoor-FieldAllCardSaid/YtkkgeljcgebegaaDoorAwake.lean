/- The document example of package field holds. No condition. -/
import Derived.Test.YtkkgeljcgebegaaDoorRef
namespace Go.Proofs.YtkkgeljcgebegaaDoor
open Go.RowKit Go.Shelf
set_option linter.unusedVariables false
set_option linter.unusedSimpArgs false
theorem eq_num (a b : Nat) (ha : a < 115792089237316195423570985008687907853269984665640564039457584007913129639936) (hb : b < 115792089237316195423570985008687907853269984665640564039457584007913129639936) (v : Bool) (hv : decide (a = b) = v) (w : World) : (Op.equalIn 10000 24 (.agg (num a)) (.agg (num b))).run Tryd.prog w = .ok v w := by
  rw [num_lit, num_lit, eq24]
  congr 1
  rw [← hv]
  by_cases e : a = b
  · subst e; simp
  · rw [decide_eq_false e]
    apply Bool.eq_false_iff.2
    intro hc
    simp at hc
    exact e (num_inj ha hb hc.1 hc.2.1 hc.2.2.1 hc.2.2.2)
set_option maxRecDepth 100000 in
set_option maxHeartbeats 1000000 in
theorem awake_any (w : World) : Calls Tryd.prog 6 #[] w fun e w' => e = .returned (.bool true) ∧ Below w.heap.size w w' := by
  have H1 := Lib.hid prime_any
  have H2 := Lib.hid (norm_any pp (by decide))
  rw [Nat.mod_self] at H2
  have H3 := Lib.hid (mulf_any 3 5 (by decide) (by decide))
  rw [show mulF 3 5 = 15 by decide] at H3
  have n0 : num 0 = #[.int .u64 0, .int .u64 0, .int .u64 0, .int .u64 0] := by kernel_rfl
  have n3 : num 3 = #[.int .u64 3, .int .u64 0, .int .u64 0, .int .u64 0] := by kernel_rfl
  have n5 : num 5 = #[.int .u64 5, .int .u64 0, .int .u64 0, .int .u64 0] := by kernel_rfl
  have n15 : num 15 = #[.int .u64 15, .int .u64 0, .int .u64 0, .int .u64 0] := by kernel_rfl
  have e0 : ∀ w : World, (Op.equalIn 10000 24 (.agg (num 0)) (.agg (num 0))).run Tryd.prog w = .ok true w := eq_num 0 0 (by decide) (by decide) true (by decide)
  have e15 : ∀ w : World, (Op.equalIn 10000 24 (.agg (num 15)) (.agg (num 15))).run Tryd.prog w = .ok true w := eq_num 15 15 (by decide) (by decide) true (by decide)
  rw [n0] at H2 e0
  rw [n3, n5, n15] at H3
  rw [n15] at e15
  clear n0 n3 n5 n15
  generalize num pp = P at *
  go_enter Tryd.func6, Tryd.ntmps6
  go_wp2_with fail
  refine (H1.out _).mono ?_
  rintro e w1 ⟨rfl, hb1⟩
  go_wp2_with fail
  refine (H2.out _).mono ?_
  rintro e w2 ⟨rfl, hb2⟩
  go_wp2_with fail
  refine (H3.out _).mono ?_
  rintro e w3 ⟨rfl, hb3⟩
  go_wp2
  go_ret
  exact ⟨rfl, (hb1.trans (hb2.mono hb1.size)).trans (hb3.mono (Nat.le_trans hb1.size hb2.size))⟩
end Go.Proofs.YtkkgeljcgebegaaDoor
