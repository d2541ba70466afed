/- The law CrcAll walked: it returns true at any two texts, and no memory that was there is changed. -/
import Derived.Test.YtmmgnjgnjgjhmaaAwake
namespace Go.Proofs.Ytmmgnjgnjgjhmaa
open Go.RowKit
set_option linter.unusedVariables false

theorem all_big (s t : ByteArray) (hs : s.size ≤ 9223372036854775807) (ht : t.size ≤ 9223372036854775807) (h : 500 < s.size ∨ 500 < t.size) (w : World) :
    Calls Try.prog 3 #[.string s, .string t] w fun e w' => e = .returned (.bool true) ∧ Below w.heap.size w w' := by
  by_cases h1 : 500 < s.size
  · have hd : decide (500 < (s.size : Int)) = true := by simp; omega
    go_enter Try.func3, Try.ntmps3
    go_wp2_with (go_at_call 8; refine (awake_ok _).mono ?_; rintro e w1 ⟨rfl, hb⟩)
    go_ret
    exact ⟨rfl, hb⟩
  · have hd : decide (500 < (s.size : Int)) = false := by simp; omega
    have hd2 : decide (500 < (t.size : Int)) = true := by simp; omega
    clear h h1
    go_enter Try.func3, Try.ntmps3
    go_wp2_with (go_at_call 8; refine (awake_ok _).mono ?_; rintro e w1 ⟨rfl, hb⟩)
    go_ret
    exact ⟨rfl, hb⟩

set_option maxRecDepth 100000 in
set_option maxHeartbeats 400000 in
theorem all_mid (s t x : ByteArray) (b : Bool) (hs : s.size ≤ 500) (ht : t.size ≤ 500) (w : World)
    (HG : Hid (∀ w : World, Calls Try.prog 9 #[.string t] w fun e w' => e = .returned (.tuple #[.string x, .bool b]) ∧ Below w.heap.size w w'))
    (HR : Hid (∀ w : World, Calls Try.prog 10 #[.string t] w fun e w' => e = .returned (.agg #[.string x, .bool b]) ∧ Below w.heap.size w w')) :
    Calls Try.prog 3 #[.string s, .string t] w fun e w' => e = .returned (.bool true) ∧ Below w.heap.size w w' := by
  have hd : decide (500 < (s.size : Int)) = false := by simp; omega
  have hd2 : decide (500 < (t.size : Int)) = false := by simp; omega
  go_enter Try.func3, Try.ntmps3
  go_wp2_with fail
  refine (HG.out _).mono ?_
  rintro e w1 ⟨rfl, hb1⟩
  go_wp2_with fail
  refine (HR.out _).mono ?_
  rintro e w2 ⟨rfl, hb2⟩
  have B2 : Hid (Below w.heap.size w w2) := Lib.hid (hb1.trans (hb2.mono hb1.size))
  clear hb1 hb2
  go_wp2_with fail
  refine (sum_any s (by omega) _).mono ?_
  rintro e w3 ⟨rfl, hb3⟩
  have G3 := Lib.hid (kept_row hb3 (heap_alloc_new w2 (.cells #[.string x, .bool b] 26)))
  have B3 : Hid (Below w.heap.size w w3) := Lib.hid ((B2.out.alloc B2.out.size _).trans (hb3.mono (by have := B2.out.size; simp; omega)))
  clear hb3 B2
  go_wp2_with fail
  refine (rcrc_any s (by omega) _).mono ?_
  rintro e w4 ⟨rfl, hb4⟩
  have G4 := Lib.hid (kept_row hb4 G3.out)
  have B4 : Hid (Below w.heap.size w w4) := Lib.hid (B3.out.trans (hb4.mono B3.out.size))
  clear hb4 B3 G3
  go_wp2_with fail
  refine (put_any s (by omega) _).mono ?_
  rintro e w5 ⟨rfl, hb5⟩
  have G5 := Lib.hid (kept_row hb5 G4.out)
  have B5 : Hid (Below w.heap.size w w5) := Lib.hid (B4.out.trans (hb5.mono B4.out.size))
  clear hb5 B4 G4
  go_wp2_with fail
  refine (rput_any s (by omega) _).mono ?_
  rintro e w6 ⟨rfl, hb6⟩
  have G6 := Lib.hid (kept_row hb6 G5.out)
  have B6 : Hid (Below w.heap.size w w6) := Lib.hid (B5.out.trans (hb6.mono B5.out.size))
  clear hb6 B5 G5
  have c0 : w6.cell? ⟨w2.heap.size, 0, none⟩ = some (.string x) := by rw [cell_of_row _ _ _ _ _ _ G6.out]; rfl
  have c1 : w6.cell? ⟨w2.heap.size, 1, none⟩ = some (.bool b) := by rw [cell_of_row _ _ _ _ _ _ G6.out]; rfl
  go_wp2_with fail
  refine (awake_ok _).mono ?_
  rintro e w7 ⟨rfl, hb7⟩
  have B7 : Hid (Below w.heap.size w w7) := Lib.hid (B6.out.trans (hb7.mono B6.out.size))
  clear hb7 B6 G6 c0 c1
  go_wp2
  go_ret
  exact ⟨rfl, B7.out⟩

theorem all_law (s t : ByteArray) (hs : s.size ≤ 9223372036854775807) (ht : t.size ≤ 9223372036854775807) (w : World) :
    Calls Try.prog 3 #[.string s, .string t] w fun e w' => e = .returned (.bool true) ∧ Below w.heap.size w w' := by
  by_cases h : 500 < s.size ∨ 500 < t.size
  · exact all_big s t hs ht h w
  · cases hb : getB t.data.toList with
    | true => exact all_mid s t (t.extract 0 (t.size - 4)) true (by omega) (by omega) w (fun w => get_yes t (by omega) hb w) (fun w => rget_yes t (by omega) hb w)
    | false => exact all_mid s t ⟨#[]⟩ false (by omega) (by omega) w (fun w => get_no t (by omega) hb w) (fun w => rget_no t (by omega) hb w)

end Go.Proofs.Ytmmgnjgnjgjhmaa
