/- What goes through bits, the lowest first, in plain numbers: the digits of one number to one base and to another. -/
import Derived.Test.YtdajmekliodmcaaGreatDoorBits
namespace Go.Proofs.YtdajmekliodmcaaGreatDoor
set_option linter.unusedVariables false
set_option linter.unusedSimpArgs false

/-- The number that digits of t bits are, the lowest first. -/
def dv (t : Nat) : List Nat → Nat
  | [] => 0
  | d :: l => d + 2 ^ t * dv t l
theorem dv_append (t : Nat) : ∀ l m : List Nat, dv t (l ++ m) = dv t l + 2 ^ (t * l.length) * dv t m
  | [], m => by simp [dv]
  | d :: l, m => by
    show d + 2 ^ t * dv t (l ++ m) = d + 2 ^ t * dv t l + 2 ^ (t * (l.length + 1)) * dv t m
    have e : 2 ^ (t * (l.length + 1)) * dv t m = 2 ^ t * (2 ^ (t * l.length) * dv t m) := by rw [Nat.mul_succ, Nat.pow_add, Nat.mul_comm (2 ^ (t * l.length)), Nat.mul_assoc]
    rw [dv_append t l m, Nat.mul_add, e]
    omega
theorem dv_snoc (t : Nat) (l : List Nat) (x : Nat) : dv t (l ++ [x]) = dv t l + 2 ^ (t * l.length) * x := by
  rw [dv_append]; simp [dv]
/-- The digits that loEmit tells, and what is left. -/
theorem dv_emit (t h : Nat) : ∀ k, dv t ((List.range k).map fun i => h / 2 ^ (t * i) % 2 ^ t) + 2 ^ (t * k) * (h / 2 ^ (t * k)) = h
  | 0 => by simp [dv]
  | k + 1 => by
    have ih := dv_emit t h k
    rw [List.range_succ, List.map_append, List.map_singleton, dv_snoc]
    rw [List.length_map, List.length_range, Nat.mul_succ t k, Nat.pow_add]
    have h2 : h / (2 ^ (t * k) * 2 ^ t) = h / 2 ^ (t * k) / 2 ^ t := (Nat.div_div_eq_div_mul _ _ _).symm
    rw [h2]
    have h3 := Nat.mod_add_div (h / 2 ^ (t * k)) (2 ^ t)
    rw [Nat.mul_assoc, Nat.add_assoc, ← Nat.mul_add, h3]
    exact ih
structure LoInv (f t : Nat) (l : List Nat) (s : Nat × Nat × List Nat) : Prop where
  h : s.1 < 2 ^ s.2.1
  n : s.2.1 < t
  len : t * s.2.2.length + s.2.1 = f * l.length
  val : dv t s.2.2 + 2 ^ (t * s.2.2.length) * s.1 = dv f l
  lt : ∀ x ∈ s.2.2, x < 2 ^ t
theorem or_shift (h n x : Nat) (hh : h < 2 ^ n) (hn : x * 2 ^ n < 18446744073709551616) : h ||| x * 2 ^ n % 18446744073709551616 = h + 2 ^ n * x := by
  rw [Nat.mod_eq_of_lt hn, Nat.or_comm, Nat.mul_comm x, ← Nat.two_pow_add_eq_or_of_lt hh]
  omega
theorem LoInv.step {f t : Nat} {l : List Nat} {s : Nat × Nat × List Nat} (hs : LoInv f t l s) (x : Nat) (hx : x < 2 ^ f) (ht8 : t ≤ 8) (hf8 : f ≤ 8) : LoInv f t (l ++ [x]) (loStep f t s x) := by
  obtain ⟨h, n, out⟩ := s
  obtain ⟨h1, h2, h3, h4, h5⟩ := hs
  simp only at h1 h2 h3 h4 h5
  have hb : x * 2 ^ n < 18446744073709551616 := by
    have e1 : x * 2 ^ n < 2 ^ f * 2 ^ n := Nat.mul_lt_mul_of_pos_right hx (Nat.two_pow_pos n)
    rw [← Nat.pow_add] at e1
    exact Nat.lt_of_lt_of_le e1 (Nat.pow_le_pow_right (by decide) (by omega : f + n ≤ 64))
  have hor := or_shift h n x h1 hb
  obtain ⟨q, hq⟩ : ∃ q, q = h + 2 ^ n * x := ⟨_, rfl⟩
  have hql : q < 2 ^ (n + f) := by
    rw [hq, Nat.pow_add]
    have e1 : 2 ^ n * (x + 1) ≤ 2 ^ n * 2 ^ f := Nat.mul_le_mul_left _ hx
    rw [Nat.mul_succ] at e1
    omega
  have hm := Nat.div_add_mod (n + f) t
  have ht : 0 < t := by omega
  unfold loStep
  simp only [hor, ← hq]
  refine ⟨?_, Nat.mod_lt _ ht, ?_, ?_, ?_⟩
  · show q / 2 ^ (t * ((n + f) / t)) < 2 ^ ((n + f) % t)
    apply Nat.div_lt_of_lt_mul
    rw [← Nat.pow_add, hm]
    exact hql
  · show t * (out ++ loEmit t q (n + f)).length + (n + f) % t = f * (l ++ [x]).length
    rw [List.length_append, loEmit_length, List.length_append, List.length_singleton, Nat.mul_add, Nat.mul_add, Nat.mul_one]
    omega
  · show dv t (out ++ loEmit t q (n + f)) + 2 ^ (t * (out ++ loEmit t q (n + f)).length) * (q / 2 ^ (t * ((n + f) / t))) = dv f (l ++ [x])
    rw [dv_append, dv_snoc, List.length_append, loEmit_length, Nat.mul_add, Nat.pow_add, Nat.mul_assoc, Nat.add_assoc, ← Nat.mul_add]
    have e := dv_emit t q ((n + f) / t)
    unfold loEmit
    rw [e, hq, Nat.mul_add, ← Nat.add_assoc, h4, ← Nat.mul_assoc, ← Nat.pow_add, h3]
  · intro y hy
    rcases List.mem_append.1 hy with h | h
    · exact h5 y h
    · obtain ⟨i, -, rfl⟩ := List.mem_map.1 h
      exact Nat.mod_lt _ (Nat.two_pow_pos t)
end Go.Proofs.YtdajmekliodmcaaGreatDoor
