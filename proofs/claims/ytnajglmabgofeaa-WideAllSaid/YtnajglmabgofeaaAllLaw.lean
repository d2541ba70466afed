/- The law WideAll walked: it returns true at any text, and no memory that was there is changed. -/
import Derived.Test.YtnajglmabgofeaaShaF
import Derived.Test.YtnajglmabgofeaaKnown
namespace Go.Proofs.Ytnajglmabgofeaa
open Go.RowKit
set_option linter.unusedVariables false
theorem all_law (s : ByteArray) (hs : s.size ≤ 9223372036854775807) (w : World) :
    Calls Try.prog 3 #[.string s] w fun e w' => e = .returned (.bool true) ∧ Below w.heap.size w w' := by
  by_cases h1 : 400 < s.size
  · have hd : decide (400 < (s.size : Int)) = true := by simp; omega
    go_enter Try.func3, Try.ntmps3
    go_wp2_with (go_at_call 6; refine (awake_ok _).mono ?_; rintro e w1 ⟨rfl, hb⟩)
    go_ret
    exact ⟨rfl, hb⟩
  · have hd : decide (400 < (s.size : Int)) = false := by simp; omega
    have hs2 : s.size ≤ 400 := by omega
    obtain ⟨u, hu⟩ : ∃ u : ByteArray, Hid (u = ⟨(sha s.data.toList).toArray⟩) := ⟨_, Lib.hid rfl⟩
    clear h1
    go_enter Try.func3, Try.ntmps3
    go_wp2_with fail
    refine (sum_any s (by omega) _).mono ?_
    rw [← hu.out]
    rintro e w1 ⟨rfl, hb1⟩
    have HB1 := Lib.hid hb1
    clear hb1
    go_wp2_with fail
    refine (rsha_any s (by omega) _).mono ?_
    rw [← hu.out]
    rintro e w2 ⟨rfl, hb2⟩
    have HB2 := Lib.hid (below_step HB1.out hb2)
    clear hb2 HB1
    go_wp2_with fail
    refine (awake_ok _).mono ?_
    rintro e w3 ⟨rfl, hb3⟩
    have HB3 := Lib.hid (below_step HB2.out hb3)
    clear hb3
    go_wp2
    go_ret
    exact ⟨rfl, HB3.out⟩
end Go.Proofs.Ytnajglmabgofeaa
