/- Single operations of package codec's iterators: what each yields. -/
import Derived.Test.YtdbbcngolcnniaaDoorX13
import Derived.Laws.BitsAllLaws
namespace Go.Proofs.YtdbbcngolcnniaaDoor
set_option linter.unusedSimpArgs false
open Go.RowKit Go.Shelf
set_option linter.unusedVariables false
theorem exec_shl49 {ρ : Operand → Value} {o : Oper} (x y : Operand) (ho : o.op = .binOp .shl 85 x y 3) (a n : Nat) (hx : ρ x = .int .u64 (a : Int)) (hy : ρ y = .int .i64 (n : Int)) (hn : n ≤ 64) (w : World) : (execOp ρ o).run Tryd.prog w = .ok (.value (.int .u64 ((a * 2 ^ n % 18446744073709551616 : Nat) : Int))) w := by
  unfold execOp; rw [ho]; go_simp
  rw [IntKind.wrap_u64]
theorem exec_shr49 {ρ : Operand → Value} {o : Oper} (x y : Operand) (ho : o.op = .binOp .shr 85 x y 3) (a n : Nat) (hx : ρ x = .int .u64 (a : Int)) (hy : ρ y = .int .i64 (n : Int)) (hn : n ≤ 64) (w : World) : (execOp ρ o).run Tryd.prog w = .ok (.value (.int .u64 ((a / 2 ^ n : Nat) : Int))) w := by
  unfold execOp; rw [ho]; go_simp
theorem exec_or49 {ρ : Operand → Value} {o : Oper} (x y : Operand) (ho : o.op = .binOp .or 85 x y 85) (a b : Nat) (hx : ρ x = .int .u64 (a : Int)) (hy : ρ y = .int .u64 (b : Int)) (ha : a < 18446744073709551616) (hb : b < 18446744073709551616) (w : World) : (execOp ρ o).run Tryd.prog w = .ok (.value (.int .u64 ((a ||| b : Nat) : Int))) w := by
  unfold execOp; rw [ho]; go_simp
  exact u64_or_nat a b ha hb
theorem exec_and49 {ρ : Operand → Value} {o : Oper} (x y : Operand) (ho : o.op = .binOp .and 85 x y 85) (a b : Nat) (hx : ρ x = .int .u64 (a : Int)) (hy : ρ y = .int .u64 (b : Int)) (ha : a < 18446744073709551616) (hb : b < 18446744073709551616) (w : World) : (execOp ρ o).run Tryd.prog w = .ok (.value (.int .u64 ((a &&& b : Nat) : Int))) w := by
  unfold execOp; rw [ho]; go_simp
  exact u64_and_nat a b ha hb
theorem exec_conv59 {ρ : Operand → Value} {o : Oper} (x : Operand) (ho : o.op = .convert 5 85 x) (a : Nat) (hx : ρ x = .int .u8 (a : Int)) (ha : a < 18446744073709551616) (w : World) : (execOp ρ o).run Tryd.prog w = .ok (.value (.int .u64 (a : Int))) w := by
  unfold execOp; rw [ho]; go_simp
  rw [IntKind.wrap_u64]; omega
theorem exec_conv495 {ρ : Operand → Value} {o : Oper} (x : Operand) (ho : o.op = .convert 85 5 x) (a : Nat) (hx : ρ x = .int .u64 (a : Int)) (w : World) : (execOp ρ o).run Tryd.prog w = .ok (.value (.int .u8 ((a % 256 : Nat) : Int))) w := by
  unfold execOp; rw [ho]; go_simp
  rw [IntKind.wrap_u8]
theorem exec_add3 {ρ : Operand → Value} {o : Oper} (x y : Operand) (ho : o.op = .binOp .add 3 x y 3) (a b : Nat) (hx : ρ x = .int .i64 (a : Int)) (hy : ρ y = .int .i64 (b : Int)) (hn : a + b < 9223372036854775808) (w : World) : (execOp ρ o).run Tryd.prog w = .ok (.value (.int .i64 ((a + b : Nat) : Int))) w := by
  unfold execOp; rw [ho]; go_simp
  rw [IntKind.wrap_i64]; omega
theorem exec_sub3 {ρ : Operand → Value} {o : Oper} (x y : Operand) (ho : o.op = .binOp .sub 3 x y 3) (a b : Nat) (hx : ρ x = .int .i64 (a : Int)) (hy : ρ y = .int .i64 (b : Int)) (hn : b ≤ a) (h2 : a < 9223372036854775808) (w : World) : (execOp ρ o).run Tryd.prog w = .ok (.value (.int .i64 ((a - b : Nat) : Int))) w := by
  unfold execOp; rw [ho]; go_simp
  rw [IntKind.wrap_i64]; omega
theorem exec_loadB {ρ : Operand → Value} {o : Oper} {t : TypeId} (x : Operand) (ho : o.op = .load t x) (b : Nat) (v : Value) (hx : ρ x = .pointer (some ⟨b, 0, none⟩)) (w : World) (hc : w.cell? ⟨b, 0, none⟩ = some v) (h1 : v.oneCell' = true) (ht : t = 3 ∨ t = 85 ∨ t = 57) : (execOp ρ o).run Tryd.prog w = .ok (.value v) w := by
  unfold execOp
  rw [ho]
  rcases ht with rfl | rfl | rfl <;> go_simp
end Go.Proofs.YtdbbcngolcnniaaDoor
