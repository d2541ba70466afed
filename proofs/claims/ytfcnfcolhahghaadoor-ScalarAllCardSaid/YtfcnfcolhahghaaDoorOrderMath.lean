/- Numbers modulo the order, bit by bit, as plain arithmetic. No condition but what each names. -/
import Derived.Test.YtfcnfcolhahghaaDoorMulMath
import Derived.Test.YtfcnfcolhahghaaDoorLeMath
namespace Go.Proofs.YtfcnfcolhahghaaDoor
set_option linter.unusedVariables false
/-- The order. -/
def LL : Nat := 7237005577332262213973186563042994240857116359379907606001950938285454250989
theorem LL_pos : 0 < LL := by decide
theorem LL_lt {x : Nat} (h : x < LL) : x < 115792089237316195423570985008687907853269984665640564039457584007913129639936 := Nat.lt_trans h (by decide)
def redL (x : Nat) : Nat := x % LL
/-- One bit more: twice what was, and it, less the order where that goes. -/
theorem red_step (x b : Nat) (hb : b < 2) : (if 2 * (x % LL) + b < LL then 2 * (x % LL) + b else 2 * (x % LL) + b - LL) = (2 * x + b) % LL := by
  have h := Nat.mod_lt x LL_pos
  have e : (2 * x + b) % LL = (2 * (x % LL) + b) % LL := by
    rw [Nat.add_mod, Nat.mul_mod, Nat.add_mod (2 * (x % LL)), Nat.mul_mod 2 (x % LL), Nat.mod_mod]
  rw [e]
  generalize x % LL = y at *
  split
  · rename_i h1
    rw [Nat.mod_eq_of_lt h1]
  · rename_i h1
    rw [Nat.mod_eq_sub_mod (by omega), Nat.mod_eq_of_lt (by omega)]
theorem bit_up (V i : Nat) : 2 * (V / 2 ^ (i + 1)) + V / 2 ^ i % 2 = V / 2 ^ i := by
  rw [Nat.pow_succ, ← Nat.div_div_eq_div_mul]
  omega
/-- A bit of a row of words of 32 bits. -/
theorem v32_bit (f : Nat → Nat) : ∀ n, (∀ j, j < n → f j < 4294967296) → ∀ i, i < 32 * n → f (i / 32) / 2 ^ (i % 32) % 2 = v32 n f / 2 ^ i % 2
  | 0, _, i, hi => by omega
  | n + 1, h, i, hi => by
    have hp : (4294967296 : Nat) ^ n = 2 ^ (32 * n) := by rw [show (4294967296 : Nat) = 2 ^ 32 from rfl, ← Nat.pow_mul]
    have hlt := v32_lt f n (fun j hj => h j (by omega))
    rw [v32_succ, hp]
    rw [hp] at hlt
    by_cases hn : i < 32 * n
    · rw [v32_bit f n (fun j hj => h j (by omega)) i hn]
      have e : 32 * n = i + (32 * n - i - 1 + 1) := by omega
      rw [e, Nat.pow_add, Nat.pow_succ, Nat.mul_left_comm, Nat.add_mul_div_left _ _ (Nat.two_pow_pos i), ← Nat.mul_assoc, Nat.add_mul_mod_self_right]
    · have hq : i / 32 = n := by omega
      have e : i = 32 * n + i % 32 := by omega
      rw [hq]
      conv => rhs; rw [e]
      rw [Nat.pow_add, ← Nat.div_div_eq_div_mul, Nat.add_mul_div_right _ _ (Nat.two_pow_pos _), Nat.div_eq_of_lt hlt, Nat.zero_add]
/-- A bit of bytes. -/
theorem le_get : ∀ (l : List UInt8) (j : Nat), (l.getD j 0).toNat = leVal l / 256 ^ j % 256
  | [], j => by simp [leVal]
  | c :: l, 0 => by
    have hc := c.toNat_lt
    show c.toNat = (c.toNat + 256 * leVal l) / 1 % 256
    omega
  | c :: l, j + 1 => by
    have hc := c.toNat_lt
    have h := le_get l j
    show (l.getD j 0).toNat = (c.toNat + 256 * leVal l) / (256 ^ j * 256) % 256
    rw [h, Nat.mul_comm (256 ^ j) 256, ← Nat.div_div_eq_div_mul, show (c.toNat + 256 * leVal l) / 256 = leVal l by omega]
theorem le_bit (l : List UInt8) (k : Nat) : (l.getD (k / 8) 0).toNat / 2 ^ (k % 8) % 2 = leVal l / 2 ^ k % 2 := by
  rw [le_get]
  have h : (2 : Nat) ^ k = 256 ^ (k / 8) * 2 ^ (k % 8) := by
    rw [show (256 : Nat) = 2 ^ 8 from rfl, ← Nat.pow_mul, ← Nat.pow_add]
    congr 1
    omega
  rw [h, ← Nat.div_div_eq_div_mul]
  generalize leVal l / 256 ^ (k / 8) = y
  have h8 : k % 8 < 8 := Nat.mod_lt _ (by decide)
  rcases (show k % 8 = 0 ∨ k % 8 = 1 ∨ k % 8 = 2 ∨ k % 8 = 3 ∨ k % 8 = 4 ∨ k % 8 = 5 ∨ k % 8 = 6 ∨ k % 8 = 7 by omega) with h | h | h | h | h | h | h | h <;> rw [h] <;> simp only [Nat.reducePow] <;> omega
/-- The number of a text's first 64 bytes, modulo the order. -/
def reduceL (l : List UInt8) : Nat := leVal (l.take 64) % LL
def muladdL (a b c : Nat) : Nat := (a * b + c) % LL
theorem muladd_mods (a b c : Nat) : ((a % LL) * (b % LL) % LL + c % LL) % LL = muladdL a b c := by
  unfold muladdL
  rw [← Nat.mul_mod, ← Nat.add_mod]
end Go.Proofs.YtfcnfcolhahghaaDoor
