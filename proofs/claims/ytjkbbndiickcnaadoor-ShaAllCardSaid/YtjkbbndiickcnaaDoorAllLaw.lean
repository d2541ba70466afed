/- The law ShaAll walked: it returns true at any text, and no memory that was there is changed. -/
import Derived.Test.YtjkbbndiickcnaaDoorShaF
namespace Go.Proofs.YtjkbbndiickcnaaDoor
open Go.RowKit
set_option linter.unusedVariables false
theorem all_law (s : ByteArray) (hs : s.size ≤ 9223372036854775807) (w : World) (hG : Glob w) :
    Calls Tryd.prog 3 #[.string s] w fun e w' => e = .returned (.bool true) ∧ Below w.heap.size w w' := by
  by_cases h1 : 300 < s.size
  · have hd : decide (300 < (s.size : Int)) = true := by simp; omega
    go_enter Tryd.func3, Tryd.ntmps3
    go_wp2_with (go_at_call 8; refine (awake_ok _ hG).mono ?_; rintro e w1 ⟨rfl, hb⟩)
    go_ret
    exact ⟨rfl, hb⟩
  · have hd : decide (300 < (s.size : Int)) = false := by simp; omega
    have hs2 : s.size ≤ 300 := by omega
    obtain ⟨u, hu⟩ : ∃ u : ByteArray, Hid (u = ⟨(sha s.data.toList).toArray⟩) := ⟨_, Lib.hid rfl⟩
    have HG := Lib.hid hG
    clear hG h1
    go_enter Tryd.func3, Tryd.ntmps3
    go_wp2_with fail
    refine (sum_any s (by omega) _ HG.out).mono ?_
    rw [← hu.out]
    rintro e w1 ⟨rfl, hb1⟩
    have HB1 := Lib.hid hb1
    have HG1 := Lib.hid (HG.out.below hb1)
    clear hb1 HG
    go_wp2_with fail
    refine (rsha_any s (by omega) _).mono ?_
    rw [← hu.out]
    rintro e w2 ⟨rfl, hb2⟩
    have HB2 := Lib.hid (below_step HB1.out hb2)
    have HG2 := Lib.hid (HG1.out.below hb2)
    clear hb2 HG1 HB1
    go_wp2_with fail
    refine (awake_ok _ HG2.out).mono ?_
    rintro e w3 ⟨rfl, hb3⟩
    have HB3 := Lib.hid (below_step HB2.out hb3)
    clear hb3
    go_wp2
    go_ret
    exact ⟨rfl, HB3.out⟩
end Go.Proofs.YtjkbbndiickcnaaDoor
