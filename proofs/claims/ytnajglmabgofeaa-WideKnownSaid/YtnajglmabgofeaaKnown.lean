/- What all know of hashes of 64 bytes is so. No condition. -/
import Derived.Test.YtnajglmabgofeaaSum
import Derived.Test.YtnajglmabgofeaaHex
namespace Go.Proofs.Ytnajglmabgofeaa
open Go.RowKit
set_option linter.unusedVariables false
theorem be8_length (n : Nat) : (be8 n).length = 8 := rfl
theorem sha_length (l : List UInt8) : (sha l).length = 64 := by
  unfold sha tell
  simp [be8_length]
theorem below_step {w a b : World} (h : Below w.heap.size w a) (k : Below a.heap.size a b) : Below w.heap.size w b := h.trans (k.mono h.size)
theorem hex_sha (l : List UInt8) (w : World) : Calls Try.prog 10 #[.string ⟨(sha l).toArray⟩] w fun e w' => e = .returned (.string ⟨(hex (sha l)).toArray⟩) ∧ Below w.heap.size w w' :=
  hex_any ⟨(sha l).toArray⟩ (by show (sha l).toArray.size ≤ 1000; rw [List.size_toArray, sha_length]; omega) (by show 0 < (sha l).toArray.size; rw [List.size_toArray, sha_length]; omega) w
theorem exec_eq_str {ρ : Operand → Value} {o : Oper} (x : Operand) (C X : ByteArray) (ho : o.op = .binOp .eql 9 x (.const (.string C)) 9) (hc : ρ (.const (.string C)) = .string C) (hx : ρ x = .string X) (h : X = C) (w : World) : (execOp ρ o).run Try.prog w = .ok (.value (.bool true)) w := by
  subst h
  have hu := Try.underlying9
  unfold execOp
  simp only [ho, hx, hc]
  go_simp
set_option maxRecDepth 100000 in
set_option maxHeartbeats 1000000 in
theorem awake_ok (w : World) : Calls Try.prog 6 #[] w fun e w' => e = .returned (.bool true) ∧ Below w.heap.size w w' := by
  have HS := Lib.hid (sum_any ⟨#[]⟩ (by decide) w)
  have HH := Lib.hid (fun w => hex_sha [] w)
  have e0 : (⟨#[]⟩ : ByteArray).data.toList = [] := rfl
  rw [e0] at HS
  obtain ⟨h, hh⟩ : ∃ h, Hid (h = sha []) := ⟨_, Lib.hid rfl⟩
  rw [← hh.out] at HS HH
  clear e0
  go_enter Try.func6, Try.ntmps6
  go_wp2_with fail
  refine HS.out.mono ?_
  rintro e w1 ⟨rfl, hb1⟩
  have HB1 := Lib.hid hb1
  clear hb1
  go_wp2_with fail
  refine (HH.out _).mono ?_
  rintro e w2 ⟨rfl, hb2⟩
  have HB2 := Lib.hid (HB1.out.trans (hb2.mono HB1.out.size))
  clear hb2
  rw [hh.out]
  go_wp2_with (refine wpList_run rfl _ (exec_eq_str (.tmp 2) _ _ rfl rfl rfl (by decide +kernel) _) ?_)
  go_ret
  exact ⟨rfl, HB2.out⟩
end Go.Proofs.Ytnajglmabgofeaa
