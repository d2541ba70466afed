/- The law CodecLetters walked: where the texts share no byte. -/
import Derived.Test.YtkkdcecnegdipaaRefA
import Derived.Deep.RegionHeld3
namespace Go.Proofs.Ytkkdcecnegdipaa
open Go.RowKit Go.Shelf
set_option linter.unusedVariables false
theorem min_nil (a b : Nat) (hn : min a b = 0) (w : World) : (Builtin.min_ #[3, 3, 3] 3 #[.int .i64 (a : Int), .int .i64 (b : Int), .int .i64 40]).run Try.prog w = .ok (.int .i64 0) w := by
  have e : (if (40 : Int) < (if (b : Int) < a then (b : Int) else a) then 40 else (if (b : Int) < a then (b : Int) else a)) = 0 := by
    split <;> split at * <;> omega
  rw [← e]
  simp [Builtin.min_, Builtin.min2]
set_option maxRecDepth 100000 in
set_option maxHeartbeats 1000000 in
theorem letters_nil (s t : ByteArray) (hn : min s.size t.size = 0) (w : World) : Calls Try.prog 5 #[.string s, .string t] w fun e w2 => e = .returned (.bool true) ∧ Below w.heap.size w w2 := by
  have hmin := min_nil s.size t.size hn
  have h1 : (0 : Int) ≤ (s.size : Int) := by omega
  have h2 : (0 : Int) ≤ (t.size : Int) := by omega
  have HC : Hid (∀ w, Calls Try.prog 11 #[.string ByteArray.empty] w fun e w2 => e = .returned (.string ⟨#[]⟩) ∧ Below w.heap.size w w2) := Lib.hid fun w => by
    have h := base32_any ⟨#[]⟩ w (by decide)
    rw [show (b32 (⟨#[]⟩ : ByteArray).data.toList).toArray = #[] by decide +kernel] at h
    exact h
  have HKP : Hid (∀ wa wb, Below w.heap.size w wa → Below wa.heap.size wa wb → Below w.heap.size w wb) := Lib.hid fun _ _ h k => below_then h k
  have hD : Hid (Below w.heap.size w w.drew) := Lib.hid (Below.refl _ w).drew
  clear hn
  go_enter Try.func5, Try.ntmps5
  go_wp2
  go_region_held3 (fun w' => Below w.heap.size w w') (first | exact hD.out | exact HKP.out _ _ (by assumption) hbx) (first | (go_at_call 11; (with_reducible refine (HC.out _).mono ?_); rintro e w' ⟨rfl, hbx⟩))
  rename_i hHeld
  have HH := Lib.hid hHeld
  clear hHeld hmin hD
  go_wp2
  go_loopw [8, 9] (fun o v wr => o = .int .i64 0 ∧ v = .int .i64 (-1) ∧ Hid (Below w.heap.size w wr)) (fun _ v _ => 0)
  case atStart => exact ⟨rfl, rfl, HH⟩
  case round =>
    obtain ⟨rfl, rfl, hb⟩ := hrel
    clear HH
    go_wp2
    go_loopw [11] (fun v wr => v = .int .i64 0 ∧ Hid (Below w.heap.size w wr)) (fun v _ => 0)
    case atStart => exact ⟨rfl, hb⟩
    case round =>
      obtain ⟨rfl, hb2⟩ := hrel
      clear hb
      go_wp2_with (go_at_call 6; refine (awake_ok _).mono ?_; rintro e w9 ⟨rfl, b9⟩)
      go_ret
      exact ⟨rfl, hb2.out.trans (b9.mono hb2.out.size)⟩
end Go.Proofs.Ytkkdcecnegdipaa
