/- Bytes as numbers, the lowest first. No condition. -/
import Derived.Test.YtfcnfcolhahghaaDoorByt
namespace Go.Proofs.YtfcnfcolhahghaaDoor
set_option linter.unusedVariables false
/-- The number of bytes, the lowest first. -/
def leVal : List UInt8 → Nat
  | [] => 0
  | b :: r => b.toNat + 256 * leVal r
theorem leVal_lt : ∀ l : List UInt8, leVal l < 256 ^ l.length
  | [] => by simp [leVal]
  | b :: r => by
    have h := leVal_lt r
    have hb := b.toNat_lt
    simp only [leVal, List.length_cons, Nat.pow_succ]
    omega
theorem leVal_append : ∀ l m : List UInt8, leVal (l ++ m) = leVal l + 256 ^ l.length * leVal m
  | [], m => by simp [leVal]
  | b :: r, m => by
    have h := leVal_append r m
    simp only [List.cons_append, leVal, List.length_cons, Nat.pow_succ, h]
    rw [Nat.mul_add, Nat.add_assoc, ← Nat.mul_assoc, Nat.mul_comm 256 (256 ^ r.length)]
theorem leVal_snoc (l : List UInt8) (b : UInt8) : leVal (l ++ [b]) = leVal l + b.toNat * 256 ^ l.length := by
  rw [leVal_append]
  simp [leVal, Nat.mul_comm]
/-- Word j of bytes. -/
def wordAt (l : List UInt8) (j : Nat) : Nat := leVal ((l.drop (8 * j)).take 8)
theorem wordAt_lt (l : List UInt8) (j : Nat) : wordAt l j < 18446744073709551616 := by
  have h := leVal_lt ((l.drop (8 * j)).take 8)
  have h2 : ((l.drop (8 * j)).take 8).length ≤ 8 := by simp; omega
  have h3 : (256 : Nat) ^ ((l.drop (8 * j)).take 8).length ≤ 256 ^ 8 := Nat.pow_le_pow_right (by decide) h2
  unfold wordAt
  omega
theorem wordAt_nil (j : Nat) : wordAt [] j = 0 := by simp [wordAt, leVal]
/-- One byte more. -/
theorem wordAt_snoc (l : List UInt8) (b : UInt8) (j : Nat) : wordAt (l ++ [b]) j = if j = l.length / 8 then wordAt l j + b.toNat * 2 ^ (8 * (l.length % 8)) else wordAt l j := by
  unfold wordAt
  have hp : ∀ m, (256 : Nat) ^ m = 2 ^ (8 * m) := fun m => by rw [Nat.pow_mul]
  by_cases h : j = l.length / 8
  · rw [if_pos h]
    have h1 : (l ++ [b]).drop (8 * j) = l.drop (8 * j) ++ [b] := by rw [List.drop_append_of_le_length (by omega)]
    have h2 : (l.drop (8 * j)).length = l.length % 8 := by simp; omega
    rw [h1, List.take_of_length_le (by simp; omega), List.take_of_length_le (by omega), leVal_snoc, h2, hp]
  · rw [if_neg h]
    by_cases h3 : 8 * j ≤ l.length
    · have h1 : (l ++ [b]).drop (8 * j) = l.drop (8 * j) ++ [b] := by rw [List.drop_append_of_le_length h3]
      rw [h1, List.take_append_of_le_length (by simp; omega)]
    · rw [List.drop_eq_nil_of_le (by simp; omega), List.drop_eq_nil_of_le (by omega)]
theorem wordAt_part (l : List UInt8) (i : Nat) (hi : i = l.length) : wordAt l (i / 8) < 2 ^ (8 * (i % 8)) := by
  subst hi
  have h := leVal_lt ((l.drop (8 * (l.length / 8))).take 8)
  have h2 : ((l.drop (8 * (l.length / 8))).take 8).length = l.length % 8 := by simp; omega
  rw [h2] at h
  have hp : (256 : Nat) ^ (l.length % 8) = 2 ^ (8 * (l.length % 8)) := by rw [Nat.pow_mul]
  rw [hp] at h
  exact h
theorem val_words (l : List UInt8) (h : l.length = 32) : valN (wordAt l) = leVal l := by
  have e : l = (l.drop 0).take 8 ++ ((l.drop 8).take 8 ++ ((l.drop 16).take 8 ++ (l.drop 24).take 8)) := by
    have h3 : (l.drop 24).take 8 = l.drop 24 := List.take_of_length_le (by simp; omega)
    rw [h3, List.drop_zero]
    have h2 : (l.drop 16).take 8 ++ l.drop 24 = l.drop 16 := by
      have := List.take_append_drop 8 (l.drop 16)
      rwa [List.drop_drop] at this
    have h1 : (l.drop 8).take 8 ++ l.drop 16 = l.drop 8 := by
      have := List.take_append_drop 8 (l.drop 8)
      rwa [List.drop_drop] at this
    rw [h2, h1, List.take_append_drop]
  have hl : ∀ k, k ≤ 24 → ((l.drop k).take 8).length = 8 := fun k hk => by simp; omega
  have hv : leVal l = leVal ((l.drop 0).take 8) + 256 ^ 8 * (leVal ((l.drop 8).take 8) + 256 ^ 8 * (leVal ((l.drop 16).take 8) + 256 ^ 8 * leVal ((l.drop 24).take 8))) := by
    have := congrArg leVal e
    rw [leVal_append, leVal_append, leVal_append, hl 0 (by decide), hl 8 (by decide), hl 16 (by decide)] at this
    exact this
  rw [hv]
  unfold valN wordAt
  simp only [Nat.mul_zero, Nat.mul_one, Nat.reduceMul]
  omega
theorem leVal_le8 (x : Nat) (hx : x < 18446744073709551616) : leVal (le8 x) = x := by
  have h : ∀ n, leVal ((List.range n).map fun j => UInt8.ofNat (x / 2 ^ (8 * j))) = x % 2 ^ (8 * n) := by
    intro n
    induction n with
    | zero => simp [leVal, Nat.mod_one]
    | succ n ih =>
      rw [List.range_succ, List.map_append, List.map_singleton, leVal_snoc, ih]
      simp only [List.length_map, List.length_range, UInt8.toNat_ofNat']
      have hp : (256 : Nat) ^ n = 2 ^ (8 * n) := by rw [Nat.pow_mul]
      rw [hp, show 8 * (n + 1) = 8 * n + 8 by omega, Nat.pow_add, Nat.mod_mul, Nat.mul_comm (2 ^ (8 * n))]
  unfold le8
  rw [h 8, Nat.mod_eq_of_lt (by simpa using hx)]
theorem leVal_bytesN (N : Nat) (hN : N < 115792089237316195423570985008687907853269984665640564039457584007913129639936) : leVal (bytesN N) = N := by
  have e : bytesN N = le8 (dig N 0) ++ (le8 (dig N 1) ++ (le8 (dig N 2) ++ le8 (dig N 3))) := by
    unfold bytesN leW
    rw [fin4]
    simp
    rfl
  rw [e, leVal_append, leVal_append, leVal_append, leVal_le8 _ (dig_lt _ _), leVal_le8 _ (dig_lt _ _), leVal_le8 _ (dig_lt _ _), leVal_le8 _ (dig_lt _ _), le8_length, le8_length, le8_length]
  have h := val_dig N hN
  unfold valN at h
  omega
end Go.Proofs.YtfcnfcolhahghaaDoor
