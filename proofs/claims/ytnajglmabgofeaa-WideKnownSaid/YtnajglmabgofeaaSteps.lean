/- What single operations come to, for regions that draw their order. No condition but what each names. -/
import Derived.Test.YtnajglmabgofeaaBlockB
import Derived.Test.YtnajglmabgofeaaHeld
namespace Go.Proofs.Ytnajglmabgofeaa
open Go.RowKit
set_option linter.unusedVariables false
section
variable {ρ : Operand → Value} {o : Oper}
theorem exec_add_n (x : Operand) (n : Nat) (hn : n ≤ 1000000) (ho : o.op = .binOp .add 3 x (.const (.int .i64 (n : Int))) 3) (hc : ρ (.const (.int .i64 (n : Int))) = .int .i64 (n : Int)) (k : Nat) (hk : k ≤ 1000000000) (hx : ρ x = .int .i64 k) (w : World) : (execOp ρ o).run Try.prog w = .ok (.value (.int .i64 ((k + n : Nat) : Int))) w := by
  have h0 : IntKind.i64.wrap ((k : Int) + (n : Int)) = (k : Int) + (n : Int) := IntWalk.i64_in _ (by omega)
  have h1 : ((k + n : Nat) : Int) = (k : Int) + (n : Int) := by omega
  rw [h1]
  unfold execOp
  simp only [ho, hx, hc]
  go_simp
theorem exec_slice_str (x lo hi : Operand) (ho : o.op = .slice 9 x (some lo) (some hi) none) (S : ByteArray) (a b : Nat) (hab : a ≤ b) (hb : b ≤ S.size) (hx : ρ x = .string S) (hlo : ρ lo = .int .i64 a) (hhi : ρ hi = .int .i64 b) (w : World) :
    (execOp ρ o).run Try.prog w = .ok (.value (.string (S.extract a b))) w := by
  have h1 : (a : Int) ≤ (b : Int) := by omega
  have h2 : (b : Int) ≤ (S.size : Int) := by omega
  have hu := Try.underlying9
  unfold execOp
  simp only [ho, hx, hlo, hhi, Option.map]
  go_simp
theorem exec_slice_to (x hi : Operand) (ho : o.op = .slice 9 x none (some hi) none) (S : ByteArray) (b : Nat) (hb : b ≤ S.size) (hx : ρ x = .string S) (hhi : ρ hi = .int .i64 b) (w : World) :
    (execOp ρ o).run Try.prog w = .ok (.value (.string (S.extract 0 b))) w := by
  have h2 : (b : Int) ≤ (S.size : Int) := by omega
  have hu := Try.underlying9
  unfold execOp
  simp only [ho, hx, hhi, Option.map]
  go_simp
theorem exec_slice_from (x lo : Operand) (ho : o.op = .slice 9 x (some lo) none none) (S : ByteArray) (a : Nat) (ha : a ≤ S.size) (hx : ρ x = .string S) (hlo : ρ lo = .int .i64 a) (w : World) :
    (execOp ρ o).run Try.prog w = .ok (.value (.string (S.extract a S.size))) w := by
  have h2 : (a : Int) ≤ (S.size : Int) := by omega
  have hu := Try.underlying9
  unfold execOp
  simp only [ho, hx, hlo, Option.map]
  go_simp
end
end Go.Proofs.Ytnajglmabgofeaa
