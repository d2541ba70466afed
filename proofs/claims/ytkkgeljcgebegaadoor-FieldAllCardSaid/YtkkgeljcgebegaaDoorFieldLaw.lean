/- What holds of sums, differences, products modulo 2^255 less 19. No condition but what each names. -/
import Derived.Test.YtkkgeljcgebegaaDoorFieldMath
namespace Go.Proofs.YtkkgeljcgebegaaDoor
set_option linter.unusedVariables false
theorem addF_modl (a b : Nat) : addF (a % pp) b = addF a b := by unfold addF; rw [Nat.mod_add_mod]
theorem addF_modr (a b : Nat) : addF a (b % pp) = addF a b := by unfold addF; rw [Nat.add_mod_mod]
theorem addF_comm (a b : Nat) : addF a b = addF b a := by unfold addF; rw [Nat.add_comm]
theorem mulF_comm (a b : Nat) : mulF a b = mulF b a := by unfold mulF; rw [Nat.mul_comm]
theorem addF_assoc (a b c : Nat) : addF (addF a b) c = addF a (addF b c) := by
  unfold addF; rw [Nat.mod_add_mod, Nat.add_mod_mod, Nat.add_assoc]
theorem mulF_assoc (a b c : Nat) : mulF (mulF a b) c = mulF a (mulF b c) := by
  unfold mulF; rw [Nat.mod_mul_mod, Nat.mul_mod_mod, Nat.mul_assoc]
theorem mulF_addF (a b c : Nat) : mulF a (addF b c) = addF (mulF a b) (mulF a c) := by
  unfold mulF addF; rw [Nat.mul_mod_mod, Nat.mod_add_mod, Nat.add_mod_mod, Nat.mul_add]
theorem mulF_one (a : Nat) : mulF a 1 = a % pp := by unfold mulF; rw [Nat.mul_one]
theorem mulF_zero (a : Nat) : mulF a 0 = 0 := rfl
theorem three_pp : 3 * pp = 173688133855974293135356477513031861779904976998460846059186376011869694459847 := by decide
theorem subF_self (a : Nat) (ha : a < 115792089237316195423570985008687907853269984665640564039457584007913129639936) : subF a a = 0 := by
  unfold subF
  rw [Nat.add_sub_cancel_left, Nat.mul_mod_left]
theorem subF_addF (a b : Nat) (hb : b < 115792089237316195423570985008687907853269984665640564039457584007913129639936) : subF (addF a b) b = a % pp := by
  have h3 := three_pp
  unfold subF addF
  have hle : b ≤ 3 * pp := by omega
  rw [Nat.add_sub_assoc hle, Nat.mod_add_mod, Nat.add_assoc, Nat.add_sub_cancel' hle, Nat.mul_comm, Nat.add_mul_mod_self_left]
theorem addF_subF (a b : Nat) (hb : b < 115792089237316195423570985008687907853269984665640564039457584007913129639936) : addF (subF a b) b = a % pp := by
  have h3 := three_pp
  unfold subF addF
  have hle : b ≤ 3 * pp := by omega
  rw [Nat.mod_add_mod, Nat.add_sub_assoc hle, Nat.add_assoc, Nat.sub_add_cancel hle, Nat.mul_comm, Nat.add_mul_mod_self_left]
theorem addF_order (a b c : Nat) : addF a (addF c b) = addF (addF a b) c := by rw [addF_assoc, addF_comm b c]
theorem mulF_order (a b c : Nat) : mulF a (mulF c b) = mulF (mulF a b) c := by rw [mulF_assoc, mulF_comm b c]
theorem addF_pp (a : Nat) : addF a pp = a % pp := by unfold addF; rw [Nat.add_mod_right]
theorem mulF_pp (a : Nat) : mulF a pp = 0 := by unfold mulF; rw [Nat.mul_mod_left]
/-- Two numbers whose sum is nought have one square. -/
theorem sq_of_sum (s n : Nat) (h : (s + n) % pp = 0) : mulF s s = mulF n n := by
  obtain ⟨t, ht⟩ := Nat.dvd_of_mod_eq_zero h
  unfold mulF
  have h1 : s * s + s * n = pp * (s * t) := by rw [← Nat.mul_add, ht, Nat.mul_left_comm]
  have h2 : n * n + s * n = pp * (n * t) := by rw [← Nat.add_mul, Nat.add_comm n s, ht, Nat.mul_right_comm, Nat.mul_assoc]
  rcases Nat.le_total (s * s) (n * n) with hl | hl
  · obtain ⟨d, hd⟩ := Nat.le.dest hl
    have h3 : d = pp * (n * t) - pp * (s * t) := by omega
    have h4 : pp ∣ d := by rw [h3, ← Nat.mul_sub]; exact Nat.dvd_mul_right _ _
    obtain ⟨e, rfl⟩ := h4
    rw [← hd, Nat.add_mul_mod_self_left]
  · obtain ⟨d, hd⟩ := Nat.le.dest hl
    have h3 : d = pp * (s * t) - pp * (n * t) := by omega
    have h4 : pp ∣ d := by rw [h3, ← Nat.mul_sub]; exact Nat.dvd_mul_right _ _
    obtain ⟨e, rfl⟩ := h4
    rw [← hd, Nat.add_mul_mod_self_left]
theorem subF_zero_sq (n : Nat) (hn : n < 115792089237316195423570985008687907853269984665640564039457584007913129639936) : mulF (subF 0 n) (subF 0 n) = mulF n n := by
  apply sq_of_sum
  have h := addF_subF 0 n hn
  rw [Nat.zero_mod] at h
  exact h
theorem powF_of_one (e : Nat) : powF 1 e = 1 := by unfold powF; rw [Nat.one_pow]; decide
theorem invF_one : invF 1 = 1 := powF_of_one _
theorem powF_zero_of (a e : Nat) (ha : a % pp = 0) (he : 0 < e) : powF a e = 0 := by
  rw [← powF_mod, ha]
  unfold powF
  rw [Nat.zero_pow he, Nat.zero_mod]
theorem invF_zero_of (a : Nat) (ha : a % pp = 0) : invF a = 0 := powF_zero_of a _ ha (by decide)
end Go.Proofs.YtkkgeljcgebegaaDoor
