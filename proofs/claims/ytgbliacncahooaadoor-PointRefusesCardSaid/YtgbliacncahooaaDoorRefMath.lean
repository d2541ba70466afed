/- The texts that PointRefuses gives to From: none is a point. No condition but what each names. -/
import Derived.Test.YtgbliacncahooaaDoorGFromE
namespace Go.Proofs.YtgbliacncahooaaDoor
open Go.RowKit Go.Shelf
theorem fromU2_val : fromU 2 = 43446857792565604583783486763960003913525092658904367978015407342224011949000 := by
  unfold fromU invF
  rw [dN_val, show addF (mulF 37095705934669439343138083508754565189542113879843219016388785533085940283555 (mulF 2 2)) 1 = 32590734501361561948981349026330352904898470853732312026097558124430631494323 by decide, powF_pwm 32590734501361561948981349026330352904898470853732312026097558124430631494323 (pp - 2) _ (by decide) rfl]
  decide +kernel
theorem no_root2 : (rootF (fromU 2)).2 = false := by
  rw [fromU2_val]
  cases h : (rootF 43446857792565604583783486763960003913525092658904367978015407342224011949000).2 with
  | false => rfl
  | true =>
    exfalso
    have h1 := (rootF_has _ (by decide)).1 h
    rw [powF_pwm _ hf _ (by decide) rfl] at h1
    exact absurd h1 (by decide +kernel)
theorem mulF_zero_any (x : Nat) : mulF 0 x = 0 := by unfold mulF; rw [Nat.zero_mul, Nat.zero_mod]
theorem fromU_one : fromU 1 = 0 := by
  unfold fromU
  rw [show subF (mulF 1 1) 1 = 0 by decide]
  exact mulF_zero_any _
theorem root_one : (rootF (fromU 1)).1 = 0 := by rw [fromU_one, rootF_zero 0 (Nat.zero_mod _)]
theorem leVal_big (b : UInt8) : leVal (b :: List.replicate 30 255) = b.toNat + 452312848583266388373324160190187140051835877600158453279131187530910662400 := by
  show b.toNat + 256 * leVal (List.replicate 30 255) = _
  rw [show leVal (List.replicate 30 255) = 1766847064778384329583297500742918515827483896875618958121606201292619775 by decide +kernel]
theorem no_text (m : List UInt8) (b c : UInt8) (hm : m.length = 31) (hc : c.toNat = b.toNat % 128) {d : (Nat × Nat) × Bool} (h : decQ (leVal m + c.toNat * 256 ^ 31) (b.toNat / 128) = d) : fromP ⟨(m ++ [b]).toArray⟩ = d := by
  rw [fromP_parts (s := ⟨(m ++ [b]).toArray⟩) (len31 b hm) hm (by show leVal (m ++ [b]) = _; rw [leVal_snoc, hm]) hc]
  exact h
theorem no_big (b e c : UInt8) (n : Nat) (hb : b.toNat = 237 + n % 19) (he : c.toNat = e.toNat % 128) (hc : c.toNat = 127) : fromP ⟨((b :: List.replicate 30 255) ++ [e]).toArray⟩ = ((0, 0), false) := by
  refine no_text _ e c rfl he ?_
  unfold decQ
  rw [if_neg]
  rintro ⟨h, -⟩
  rw [leVal_big, hc, pp_lit] at h
  omega
theorem no_two : fromP ⟨(((2 : UInt8) :: List.replicate 30 0) ++ [0]).toArray⟩ = ((0, 0), false) := by
  refine no_text _ 0 0 rfl rfl ?_
  rw [show leVal ((2 : UInt8) :: List.replicate 30 0) + (0 : UInt8).toNat * 256 ^ 31 = 2 by decide +kernel]
  unfold decQ
  rw [if_neg]
  rintro ⟨-, h, -⟩
  rw [no_root2] at h
  cases h
theorem no_odd : fromP ⟨(((1 : UInt8) :: List.replicate 30 0) ++ [128]).toArray⟩ = ((0, 0), false) := by
  refine no_text _ 128 0 rfl rfl ?_
  rw [show leVal ((1 : UInt8) :: List.replicate 30 0) + (0 : UInt8).toNat * 256 ^ 31 = 1 by decide +kernel]
  unfold decQ
  rw [if_neg]
  rintro ⟨-, -, h⟩
  exact h ⟨rfl, root_one⟩
theorem no_size (s : ByteArray) (h : s.size ≠ 32) : fromP s = ((0, 0), false) := by
  unfold fromP
  rw [if_neg h]
end Go.Proofs.YtgbliacncahooaaDoor
