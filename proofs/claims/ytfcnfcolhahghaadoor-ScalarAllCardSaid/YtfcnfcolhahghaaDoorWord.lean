/- Words of 64 bits: math/bits.Add64, Sub64 as package scalar calls them. No condition but that the numbers have 64 bits. -/
import Derived.Test.YtfcnfcolhahghaaDoorNumMath
import Derived.Test.YtfcnfcolhahghaaDoorRound
import Derived.Test.YtfcnfcolhahghaaDoorCells
import Derived.Laws.Externs
import Derived.Shelf.Spec.BitsCarry
namespace Go.Proofs.YtfcnfcolhahghaaDoor
open Go.RowKit
set_option linter.unusedVariables false
def mulHi (x y : Nat) : Nat := x * y / 18446744073709551616
def mulLo (x y : Nat) : Nat := x * y % 18446744073709551616
theorem mul_le32 {a b : Nat} (ha : a < 4294967296) (hb : b < 4294967296) : a * b ≤ 18446744065119617025 :=
  Nat.le_trans (Nat.mul_le_mul (Nat.le_of_lt_succ ha) (Nat.le_of_lt_succ hb)) (by decide)
theorem mul_parts (x y : Nat) : x * y = x % 4294967296 * (y % 4294967296) + (x / 4294967296 * (y % 4294967296) + x % 4294967296 * (y / 4294967296)) * 4294967296 + x / 4294967296 * (y / 4294967296) * 18446744073709551616 := by
  have hx : x = x / 4294967296 * 4294967296 + x % 4294967296 := by omega
  have hy : y = y / 4294967296 * 4294967296 + y % 4294967296 := by omega
  generalize x / 4294967296 = x1 at *
  generalize x % 4294967296 = x0 at *
  generalize y / 4294967296 = y1 at *
  generalize y % 4294967296 = y0 at *
  subst hx
  subst hy
  have h1 : x1 * 4294967296 * (y1 * 4294967296) = x1 * y1 * 18446744073709551616 := by rw [Nat.mul_mul_mul_comm]
  have h2 : x1 * 4294967296 * y0 = x1 * y0 * 4294967296 := by rw [Nat.mul_right_comm]
  have h3 : x0 * (y1 * 4294967296) = x0 * y1 * 4294967296 := by rw [Nat.mul_assoc]
  rw [Nat.add_mul, Nat.mul_add, Nat.mul_add, h1, h2, h3]
  omega
theorem mulHi_lt {x y : Nat} (hx : x < 18446744073709551616) (hy : y < 18446744073709551616) : mulHi x y < 18446744073709551616 := by
  unfold mulHi
  have h : x * y ≤ 18446744073709551615 * 18446744073709551615 := Nat.mul_le_mul (Nat.le_of_lt_succ hx) (Nat.le_of_lt_succ hy)
  generalize x * y = z at *
  omega
theorem mulLo_lt (x y : Nat) : mulLo x y < 18446744073709551616 := Nat.mod_lt _ (by decide)
theorem and32 (x : Nat) (hx : x < 18446744073709551616) : bits .and .u64 (x : Int) 4294967295 = ((x % 4294967296 : Nat) : Int) := by
  have h := bits_and_u64_nat x 4294967295 hx (by decide)
  have h2 : x &&& 4294967295 = x % 4294967296 := Nat.and_two_pow_sub_one_eq_mod x 32
  rw [h2] at h
  exact h
/-- The pieces by which the product is found. -/
theorem mul_ex (x y : Nat) (hx : x < 18446744073709551616) (hy : y < 18446744073709551616) : ∃ x0 x1 y0 y1 A A1 B t w1 w2 C v D v1 s1 hi XY lo : Nat,
    (bits .and .u64 (x : Int) 4294967295 = (x0 : Int) ∧ (x : Int) / 4294967296 = (x1 : Int) ∧ bits .and .u64 (y : Int) 4294967295 = (y0 : Int) ∧ (y : Int) / 4294967296 = (y1 : Int)) ∧
    ((x0 : Int) * (y0 : Int) = (A : Int) ∧ (A : Int) / 4294967296 = (A1 : Int) ∧ (x1 : Int) * (y0 : Int) = (B : Int) ∧ (B : Int) + (A1 : Int) = (t : Int)) ∧
    (bits .and .u64 (t : Int) 4294967295 = (w1 : Int) ∧ (t : Int) / 4294967296 = (w2 : Int) ∧ (x0 : Int) * (y1 : Int) = (C : Int) ∧ (w1 : Int) + (C : Int) = (v : Int)) ∧
    ((x1 : Int) * (y1 : Int) = (D : Int) ∧ (v : Int) / 4294967296 = (v1 : Int) ∧ (D : Int) + (w2 : Int) = (s1 : Int) ∧ (s1 : Int) + (v1 : Int) = (hi : Int)) ∧
    ((x : Int) * (y : Int) = (XY : Int) ∧ IntKind.u64.wrap (XY : Int) = (lo : Int)) ∧
    (IntKind.u64.wrap (A : Int) = (A : Int) ∧ IntKind.u64.wrap (B : Int) = (B : Int) ∧ IntKind.u64.wrap (t : Int) = (t : Int) ∧ IntKind.u64.wrap (C : Int) = (C : Int) ∧ IntKind.u64.wrap (v : Int) = (v : Int) ∧ IntKind.u64.wrap (D : Int) = (D : Int) ∧ IntKind.u64.wrap (s1 : Int) = (s1 : Int) ∧ IntKind.u64.wrap (hi : Int) = (hi : Int)) ∧
    hi = mulHi x y ∧ lo = mulLo x y := by
  have hp := mul_parts x y
  have a0 := and32 x hx
  have b0 := and32 y hy
  have x0l : x % 4294967296 < 4294967296 := Nat.mod_lt _ (by decide)
  have y0l : y % 4294967296 < 4294967296 := Nat.mod_lt _ (by decide)
  have x1l : x / 4294967296 < 4294967296 := by omega
  have y1l : y / 4294967296 < 4294967296 := by omega
  have hA := mul_le32 x0l y0l
  have hB := mul_le32 x1l y0l
  have hC := mul_le32 x0l y1l
  have hD := mul_le32 x1l y1l
  have e1 : (x : Int) / 4294967296 = ((x / 4294967296 : Nat) : Int) := by omega
  have e2 : (y : Int) / 4294967296 = ((y / 4294967296 : Nat) : Int) := by omega
  have hmul : ∀ a b : Nat, (a : Int) * (b : Int) = ((a * b : Nat) : Int) := fun a b => (Int.natCast_mul a b).symm
  have hxy := hmul x y
  unfold mulHi mulLo
  generalize x / 4294967296 = x1 at *
  generalize x % 4294967296 = x0 at *
  generalize y / 4294967296 = y1 at *
  generalize y % 4294967296 = y0 at *
  have hAe := hmul x0 y0
  have hBe := hmul x1 y0
  have hCe := hmul x0 y1
  have hDe := hmul x1 y1
  generalize x0 * y0 = A at *
  generalize x1 * y0 = B at *
  generalize x0 * y1 = C at *
  generalize x1 * y1 = D at *
  generalize x * y = XY at *
  have ht : B + A / 4294967296 < 18446744073709551616 := by omega
  have hw := and32 (B + A / 4294967296) ht
  refine ⟨x0, x1, y0, y1, A, A / 4294967296, B, B + A / 4294967296, (B + A / 4294967296) % 4294967296, (B + A / 4294967296) / 4294967296, C, (B + A / 4294967296) % 4294967296 + C, D, ((B + A / 4294967296) % 4294967296 + C) / 4294967296, D + (B + A / 4294967296) / 4294967296, D + (B + A / 4294967296) / 4294967296 + ((B + A / 4294967296) % 4294967296 + C) / 4294967296, XY, XY % 18446744073709551616,
    ⟨a0, e1, b0, e2⟩, ⟨hAe, by omega, hBe, by omega⟩, ⟨hw, by omega, hCe, by omega⟩, ⟨hDe, by omega, by omega, by omega⟩, ⟨hxy, wrapM XY⟩, ⟨wrap_id (by omega), wrap_id (by omega), wrap_id (by omega), wrap_id (by omega), wrap_id (by omega), wrap_id (by omega), wrap_id (by omega), wrap_id (by omega)⟩, by omega, rfl⟩
theorem add64_run (x y c : Nat) (hc : c ≤ 1) (W : World) : (callFunc 32 #[.int .u64 x, .int .u64 y, .int .u64 c]).run Tryd.prog W =
    .ok (.value (.tuple #[.int .u64 (((x + y + c) % 18446744073709551616 : Nat) : Int), .int .u64 (((x + y + c) / 18446744073709551616 : Nat) : Int)])) W := by
  rw [run_callFunc_extern (e := add64Entry) Tryd.func32 (by kernel_rfl) (by kernel_rfl) (by kernel_rfl) (by kernel_rfl), run_add64 x y c (by omega) (by omega) (by omega) (by omega)]
  simp only [Result.andThen]
  congr 1
theorem sub64_run (x y c : Nat) (hc : c ≤ 1) (W : World) : (callFunc 33 #[.int .u64 x, .int .u64 y, .int .u64 c]).run Tryd.prog W =
    .ok (.value (.tuple #[.int .u64 (((x + 18446744073709551616 - y - c) % 18446744073709551616 : Nat) : Int), .int .u64 ((if x < y + c then 1 else 0 : Nat) : Int)])) W := by
  rw [run_callFunc_extern (e := sub64Entry) Tryd.func33 (by kernel_rfl) (by kernel_rfl) (by kernel_rfl) (by kernel_rfl), run_sub64 x y c hc]
  rfl
end Go.Proofs.YtfcnfcolhahghaaDoor
