/- Numbers turned into others, sums of words. No condition but what each names. -/
import Derived.Test.YtgbliacncahooaaDoorGAdd
import Derived.Test.YtgbliacncahooaaDoorGMuA
import Derived.Test.YtgbliacncahooaaDoorGPts
namespace Go.Proofs.YtgbliacncahooaaDoor
open Go.RowKit Go.Shelf
set_option linter.unusedVariables false
set_option linter.unusedSimpArgs false
theorem lt32 (k : Nat) (h : k < 4294967296) : k < 18446744073709551616 := by omega
theorem cv4122 (k : Nat) (h : k < 18446744073709551616) (w : World) : (Go.convert 41 22 (.int .u32 (k : Int))).run Tryd.prog w = .ok (.int .u64 (k : Int)) w := by
  have hw : IntKind.u64.wrap (k : Int) = (k : Int) := by
    simp [IntKind.wrap, IntKind.bits, IntKind.signed]
    omega
  have u1 := Tryd.underlying41
  have u2 := Tryd.underlying22
  unfold Go.convert
  go_simp
theorem cv225 (k r : Nat) (h : r = k % 256) (w : World) : (Go.convert 22 5 (.int .u64 (k : Int))).run Tryd.prog w = .ok (.int .u8 (r : Int)) w := by
  have hw : IntKind.u8.wrap (k : Int) = (r : Int) := by rw [h]; exact wrap8 k
  have u1 := Tryd.underlying22
  have u2 := Tryd.underlying5
  unfold Go.convert
  go_simp
theorem exec_add64 {ρ : Operand → Value} {o : Oper} (x y : Operand) (ho : o.op = .binOp .add 22 x y 22) (a b s : Nat) (hs : s = a + b) (hlt : s < 18446744073709551616) (hx : ρ x = .int .u64 (a : Int)) (hy : ρ y = .int .u64 (b : Int)) (w : World) :
    (execOp ρ o).run Tryd.prog w = .ok (.value (.int .u64 (s : Int))) w := by
  have hw : IntKind.u64.wrap ((a : Int) + (b : Int)) = (s : Int) := by
    rw [hs]
    simp [IntKind.wrap, IntKind.bits, IntKind.signed]
    omega
  unfold execOp
  rw [ho]
  simp only [hx, hy]
  go_simp
end Go.Proofs.YtgbliacncahooaaDoor
