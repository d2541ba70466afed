/- Numbers modulo 2^255 less 19 as plain arithmetic: powers by rows of bits, inverses, roots. No condition. -/
import Derived.Test.YtkkgeljcgebegaaDoorPrimeP
namespace Go.Proofs.YtkkgeljcgebegaaDoor
set_option linter.unusedVariables false

/-- The sum, the difference, the product modulo the prime. -/
def addF (a b : Nat) : Nat := (a + b) % pp
def subF (a b : Nat) : Nat := (a + 3 * pp - b) % pp
def mulF (a b : Nat) : Nat := a * b % pp
theorem pp_pos : 0 < pp := by decide
theorem addF_lt (a b : Nat) : addF a b < pp := Nat.mod_lt _ pp_pos
theorem subF_lt (a b : Nat) : subF a b < pp := Nat.mod_lt _ pp_pos
theorem mulF_lt (a b : Nat) : mulF a b < pp := Nat.mod_lt _ pp_pos
theorem pp_lt {n : Nat} (h : n < pp) : n < 115792089237316195423570985008687907853269984665640564039457584007913129639936 := Nat.lt_trans h (by decide)
/-- A power modulo the prime. -/
def powF (a e : Nat) : Nat := a ^ e % pp
theorem powF_lt (a e : Nat) : powF a e < pp := Nat.mod_lt _ pp_pos
theorem mulF_mod (a b : Nat) : mulF (a % pp) (b % pp) = mulF a b := by unfold mulF; rw [← Nat.mul_mod]
theorem mulF_modl (a b : Nat) : mulF (a % pp) b = mulF a b := by unfold mulF; rw [Nat.mod_mul_mod]
theorem mulF_modr (a b : Nat) : mulF a (b % pp) = mulF a b := by unfold mulF; rw [Nat.mul_mod_mod]
theorem mulF_pow (a e f : Nat) : mulF (powF a e) (powF a f) = powF a (e + f) := by
  unfold mulF powF
  rw [← Nat.mul_mod, ← Nat.pow_add]
theorem powF_pow (a e f : Nat) : powF (powF a e) f = powF a (e * f) := by
  unfold powF
  rw [← Nat.pow_mod, ← Nat.pow_mul]
theorem powF_mod (a e : Nat) : powF (a % pp) e = powF a e := by unfold powF; rw [← Nat.pow_mod]
theorem powF_one (a : Nat) : powF a 1 = a % pp := by unfold powF; rw [Nat.pow_one]
theorem powF_mod_self (a e : Nat) : powF a e % pp = powF a e := Nat.mod_eq_of_lt (powF_lt a e)
/-- a squared n times over. -/
def sqF (a n : Nat) : Nat := if n = 0 then a else powF a (2 ^ n)
theorem sqF_zero (a : Nat) : sqF a 0 = a := rfl
theorem sqF_mod (a n : Nat) : sqF a n % pp = powF a (2 ^ n) := by
  unfold sqF
  split
  · rename_i h; subst h; exact (powF_one a).symm
  · exact powF_mod_self _ _
theorem sqF_succ (a n : Nat) : mulF (sqF a n) (sqF a n) = sqF a (n + 1) := by
  rw [← mulF_mod, sqF_mod, mulF_pow]
  unfold sqF
  rw [if_neg (by omega), Nat.pow_succ, Nat.mul_two]
theorem sqF_lt (a n : Nat) (ha : a < 115792089237316195423570985008687907853269984665640564039457584007913129639936) : sqF a n < 115792089237316195423570985008687907853269984665640564039457584007913129639936 := by
  unfold sqF
  split
  · exact ha
  · exact pp_lt (powF_lt _ _)
theorem sqF_pos (a n : Nat) (h : 0 < n) : sqF a n = powF a (2 ^ n) := by unfold sqF; rw [if_neg (by omega)]
/-- The power of a by 2^n less 1. -/
def onF (a n : Nat) : Nat := if n = 1 then a else powF a (2 ^ n - 1)
theorem onF_mod (a n : Nat) : onF a n % pp = powF a (2 ^ n - 1) := by
  unfold onF
  split
  · rename_i h; subst h; exact (powF_one a).symm
  · exact powF_mod_self _ _
theorem onF_lt (a n : Nat) (ha : a < 115792089237316195423570985008687907853269984665640564039457584007913129639936) : onF a n < 115792089237316195423570985008687907853269984665640564039457584007913129639936 := by
  unfold onF
  split
  · exact ha
  · exact pp_lt (powF_lt _ _)
theorem onF_one (a : Nat) : onF a 1 = a := rfl
theorem onF_pos (a n : Nat) (h : n ≠ 1) : onF a n = powF a (2 ^ n - 1) := by unfold onF; rw [if_neg h]
/-- By halves. -/
theorem onF_half (a h : Nat) (hh : 0 < h) : mulF (sqF (onF a h) h) (onF a h) = powF a (2 ^ (2 * h) - 1) := by
  rw [← mulF_mod, sqF_mod, ← powF_mod, onF_mod, powF_pow, mulF_pow]
  congr 1
  have h1 : 0 < 2 ^ h := Nat.two_pow_pos h
  have h2 : 2 ^ (2 * h) = 2 ^ h * 2 ^ h := by rw [← Nat.pow_add]; congr 1; omega
  rw [h2]
  obtain ⟨m, hm⟩ : ∃ m, 2 ^ h = m + 1 := ⟨2 ^ h - 1, by omega⟩
  rw [hm]
  simp only [Nat.add_sub_cancel, Nat.mul_add, Nat.add_mul, Nat.mul_one, Nat.one_mul]
  omega
theorem onF_even (a n h : Nat) (hh : 0 < h) (hn : n = 2 * h) : mulF (sqF (onF a h) h) (onF a h) = onF a n := by
  rw [onF_half a h hh, onF_pos a n (by omega), hn]
theorem onF_odd (a n h : Nat) (hh : 0 < h) (hn : n = 2 * h + 1) : mulF (sqF (mulF (sqF (onF a h) h) (onF a h)) 1) a = onF a n := by
  rw [onF_half a h hh, onF_pos a n (by omega), sqF_pos _ 1 (by decide), Nat.pow_one, powF_pow, ← mulF_modr, ← powF_one a, mulF_pow, hn]
  congr 1
  have h1 : 0 < 2 ^ (2 * h) := Nat.two_pow_pos _
  rw [Nat.pow_succ]
  omega
/-- The inverse. -/
def invF (a : Nat) : Nat := powF a (pp - 2)
theorem invF_lt (a : Nat) : invF a < pp := powF_lt _ _
theorem invF_eq (a : Nat) : mulF (sqF (onF a 250) 5) (mulF (sqF a 3) (onF a 2)) = invF a := by
  rw [onF_pos a 250 (by decide), onF_pos a 2 (by decide), sqF_pos _ 5 (by decide), sqF_pos _ 3 (by decide), powF_pow, mulF_pow, mulF_pow]
  unfold invF
  congr 1
end Go.Proofs.YtkkgeljcgebegaaDoor
