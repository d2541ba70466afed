/- DiskMade walked: whatever bytes are handed in, the law returns true. No condition. -/
import Derived.Test.YtpkhddnehhophaaMadeB
namespace Go.Proofs.Ytpkhddnehhophaa
open Go.RowKit
set_option linter.unusedVariables false

theorem made_law (pa : Option Addr) (len cap : Nat) (f : Nat → Nat) (hl : len ≤ 9223372036854775807) (hlc : len ≤ cap) (w : World) (hB : BytesAt w pa len f) :
    Calls Try.prog 4 #[.slice pa len cap] w fun e w' => e = .returned (.bool true) ∧ Fr (fun _ => False) w w' := by
  have HA := Lib.hid (asks_walk pa len cap f hl hlc w (Lib.hid hB))
  clear hB
  go_enter Try.func4, Try.ntmps4
  go_wp2_with fail
  refine HA.out.mono ?_
  rintro e w1 ⟨pa2, k, ca, A, rfl, hk, hA, hF⟩
  have HR := Lib.hid (run_ok 32 (by decide) pa2 k ca A (by omega) w1 hA)
  have HF := Lib.hid hF
  clear hA hF HA
  go_wp2_with fail
  refine HR.out.mono ?_
  rintro e w2 ⟨rfl, hf2⟩
  have HF2 := Lib.hid (HF.out.trans hf2)
  clear hf2 HR HF
  go_wp2_with fail
  refine (awake_ok _).mono ?_
  rintro e w3 ⟨rfl, hf3⟩
  have HF3 := Lib.hid (HF2.out.trans hf3)
  clear hf3 HF2
  go_wp2
  go_ret
  exact ⟨rfl, HF3.out⟩
end Go.Proofs.Ytpkhddnehhophaa
