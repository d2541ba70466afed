/- Roots modulo 2^255 less 19 as plain arithmetic: as they are told, and what holds of them. No condition but what each names. -/
import Derived.Test.YtkkgeljcgebegaaDoorFieldLaw
namespace Go.Proofs.YtkkgeljcgebegaaDoor
set_option linter.unusedVariables false
/-- A number whose square is minus one. -/
def tn : Nat := 19681161376707505956807079304988542015446066515923890162744021073123829784752
/-- Half of the prime less one. -/
def hf : Nat := 28948022309329048855892746252171976963317496166410141009864396001978282409974
theorem tn_sq : mulF tn tn = pp - 1 := by decide
theorem powF_pwm (a e v : Nat) (he : e < 2 ^ 256) (h : pwm pp 256 a e = v) : powF a e = v := by
  unfold powF
  rw [← h]
  exact (pwm_ok pp 256 a e he).symm
theorem two_tn : powF 2 14474011154664524427946373126085988481658748083205070504932198000989141204987 = tn := powF_pwm 2 14474011154664524427946373126085988481658748083205070504932198000989141204987 tn (by decide) (by decide +kernel)
theorem two_hf : powF 2 hf = pp - 1 := powF_pwm 2 hf (pp - 1) (by decide) (by decide +kernel)
theorem powF_mulF (a b e : Nat) : powF (mulF a b) e = mulF (powF a e) (powF b e) := by
  unfold mulF powF
  rw [← Nat.pow_mod, Nat.mul_pow, Nat.mul_mod]
theorem fermatF (a : Nat) (h : a % pp ≠ 0) : powF a (pp - 1) = 1 := pp_prime.fermat_one a fun hd => h (Nat.mod_eq_zero_of_dvd hd)
theorem invF_mul (a : Nat) (h : a % pp ≠ 0) : mulF a (invF a) = 1 := by
  unfold invF
  rw [← mulF_modl, ← powF_one a, mulF_pow]
  exact fermatF a h
theorem sq_eq (x n : Nat) (hx : x < pp) (hn : n < pp) (h : mulF x x = mulF n n) : x = n ∨ (x + n) % pp = 0 := by
  have key : ∀ x n : Nat, x < pp → n < pp → n ≤ x → mulF x x = mulF n n → x = n ∨ (x + n) % pp = 0 := by
    intro x n hx hn hle h
    obtain ⟨d, rfl⟩ := Nat.le.dest hle
    have h1 : (n + d) * (n + d) = n * n + d * (n + d + n) := by
      rw [Nat.add_mul n d, Nat.mul_add n, Nat.mul_add d (n + d) n, Nat.mul_comm d n]
      omega
    have h2 : pp ∣ d * (n + d + n) := by
      have h3 := dvd_of_mod_eq (m := pp) (a := (n + d) * (n + d)) (b := n * n) h (by rw [h1]; omega)
      rwa [h1, Nat.add_sub_cancel_left] at h3
    rcases pp_prime.dvd_mul h2 with h3 | h3
    · left
      rcases Nat.eq_zero_or_pos d with rfl | h0
      · rfl
      · have := Nat.le_of_dvd h0 h3; omega
    · exact .inr (Nat.mod_eq_zero_of_dvd h3)
  rcases Nat.le_total n x with hl | hl
  · exact key x n hx hn hl h
  · rcases key n x hn hx hl h.symm with e | e
    · exact .inl e.symm
    · right; rw [Nat.add_comm]; exact e
theorem sq_one (x : Nat) (hx : x < pp) (h : mulF x x = 1) : x = 1 ∨ x = pp - 1 := by
  have hpp : pp = 57896044618658097711785492504343953926634992332820282019728792003956564819949 := rfl
  rcases sq_eq x 1 hx (by decide) (by rw [h]; decide) with e | e
  · exact .inl e
  · right
    obtain ⟨t, ht⟩ := Nat.dvd_of_mod_eq_zero e
    rcases t with _ | _ | t
    · simp at ht
    · omega
    · have : pp * 2 ≤ pp * (t + 1 + 1) := Nat.mul_le_mul_left _ (by omega)
      omega
theorem eulerF (a : Nat) (h : a % pp ≠ 0) : powF a hf = 1 ∨ powF a hf = pp - 1 :=
  sq_one _ (powF_lt _ _) (by rw [mulF_pow]; exact fermatF a h)
theorem neg_val (r : Nat) (h0 : 0 < r) (hr : r < pp) : subF 0 r = pp - r := by
  unfold subF
  have h3 := three_pp
  have e : 0 + 3 * pp - r = (pp - r) + 2 * pp := by omega
  rw [e, Nat.mul_comm 2 pp, Nat.add_mul_mod_self_left, Nat.mod_eq_of_lt (by omega)]
/-- The power that is tried. -/
def rootR (a : Nat) : Nat := powF a 7237005577332262213973186563042994240829374041602535252466099000494570602494
/-- It, or it turned. -/
def rootT (a : Nat) : Nat := if mulF (rootR a) (rootR a) = a % pp then rootR a else mulF (rootR a) tn
/-- The root. -/
def rootF (a : Nat) : Nat × Bool := if mulF (rootT a) (rootT a) = a % pp then (if rootT a % 2 = 1 then subF 0 (rootT a) else rootT a, true) else (0, false)
theorem rootR_lt (a : Nat) : rootR a < pp := powF_lt _ _
theorem rootT_lt (a : Nat) : rootT a < pp := by unfold rootT; split; exact rootR_lt a; exact mulF_lt _ _
theorem rootF_lt (a : Nat) : (rootF a).1 < pp := by
  unfold rootF
  split
  · show (if rootT a % 2 = 1 then subF 0 (rootT a) else rootT a) < pp
    split
    · exact subF_lt _ _
    · exact rootT_lt a
  · exact pp_pos
theorem rootF_mod (a : Nat) : rootF (a % pp) = rootF a := by
  have h : rootT (a % pp) = rootT a := by unfold rootT rootR; rw [powF_mod, Nat.mod_mod]
  unfold rootF
  rw [h, Nat.mod_mod]
theorem rootF_sq (a : Nat) (h : (rootF a).2 = true) : mulF (rootF a).1 (rootF a).1 = a % pp := by
  unfold rootF at h ⊢
  split
  · rename_i h1
    show mulF (if rootT a % 2 = 1 then subF 0 (rootT a) else rootT a) (if rootT a % 2 = 1 then subF 0 (rootT a) else rootT a) = a % pp
    split
    · rw [subF_zero_sq _ (pp_lt (rootT_lt a))]; exact h1
    · exact h1
  · rename_i h1
    rw [if_neg h1] at h
    exact absurd h (by decide)
theorem rootF_even (a : Nat) : (rootF a).1 % 2 = 0 := by
  have hpp : pp = 57896044618658097711785492504343953926634992332820282019728792003956564819949 := rfl
  unfold rootF
  split
  · show (if rootT a % 2 = 1 then subF 0 (rootT a) else rootT a) % 2 = 0
    have hl := rootT_lt a
    split
    · rename_i h
      rw [neg_val _ (by omega) hl]
      omega
    · omega
  · rfl
theorem rootF_zero (a : Nat) (h : a % pp = 0) : rootF a = (0, true) := by
  have h1 : rootR a = 0 := powF_zero_of a _ h (by decide)
  have h2 : rootT a = 0 := by unfold rootT; rw [h1, if_pos (by rw [h]; rfl)]
  unfold rootF
  rw [h2, if_pos (by rw [h]; rfl)]
  rfl
theorem rootF_has (a : Nat) (h : a % pp ≠ 0) : (rootF a).2 = true ↔ powF a hf = 1 := by
  constructor
  · intro h1
    have h2 := rootF_sq a h1
    have h3 : (rootF a).1 % pp ≠ 0 := by
      intro h0
      rw [← mulF_modl, h0] at h2
      apply h
      rw [← h2]
      unfold mulF
      rw [Nat.zero_mul, Nat.zero_mod]
    rw [← powF_mod, ← h2, powF_mulF, mulF_pow]
    exact fermatF _ h3
  · intro h1
    have hr : mulF (rootR a) (rootR a) = mulF (powF a 14474011154664524427946373126085988481658748083205070504932198000989141204987) a := by
      unfold rootR
      rw [mulF_pow, ← mulF_modr, ← powF_one a, mulF_pow]
    have hs := sq_one (powF a 14474011154664524427946373126085988481658748083205070504932198000989141204987) (powF_lt _ _) (by rw [mulF_pow]; exact h1)
    have ht : mulF (rootT a) (rootT a) = a % pp := by
      unfold rootT
      split
      · assumption
      · rename_i hn
        rcases hs with e | e
        · exact absurd (by rw [hr, e]; unfold mulF; rw [Nat.one_mul]) hn
        · have e2 : mulF (mulF (rootR a) tn) (mulF (rootR a) tn) = mulF (mulF (rootR a) (rootR a)) (mulF tn tn) := by
            unfold mulF
            rw [← Nat.mul_mod, ← Nat.mul_mod, Nat.mul_mul_mul_comm]
          rw [e2, hr, e, tn_sq, mulF_comm (pp - 1) a, mulF_assoc, show mulF (pp - 1) (pp - 1) = 1 by decide, mulF_one]
    unfold rootF
    rw [if_pos ht]
theorem rootF_square (a : Nat) : (rootF (mulF a a)).2 = true := by
  by_cases h : mulF a a % pp = 0
  · rw [rootF_zero _ h]
  · rw [rootF_has _ h]
    have ha : a % pp ≠ 0 := by
      intro h0
      apply h
      rw [← mulF_modl, h0]
      unfold mulF
      rw [Nat.zero_mul, Nat.zero_mod, Nat.zero_mod]
    rw [powF_mulF, mulF_pow]
    exact fermatF a ha
theorem rootF_square_is (a : Nat) : (rootF (mulF a a)).1 = a % pp ∨ (rootF (mulF a a)).1 = subF 0 (a % pp) := by
  have h := rootF_sq _ (rootF_square a)
  rw [Nat.mod_eq_of_lt (mulF_lt a a)] at h
  have hx := rootF_lt (mulF a a)
  generalize (rootF (mulF a a)).1 = x at *
  have hn : a % pp < pp := Nat.mod_lt _ pp_pos
  have hpp : pp = 57896044618658097711785492504343953926634992332820282019728792003956564819949 := rfl
  rcases sq_eq _ _ hx hn (h.trans (mulF_mod a a).symm) with e | e
  · exact .inl e
  · clear h
    generalize a % pp = n at *
    by_cases h0 : n = 0
    · left; subst h0
      rw [Nat.add_zero, Nat.mod_eq_of_lt hx] at e
      exact e
    · right
      rw [neg_val n (by omega) hn]
      obtain ⟨t, ht⟩ := Nat.dvd_of_mod_eq_zero e
      rcases t with _ | _ | t
      · omega
      · omega
      · have : pp * 2 ≤ pp * (t + 1 + 1) := Nat.mul_le_mul_left _ (by omega)
        omega
theorem rootF_twice (a : Nat) (h : a % pp ≠ 0) : (rootF a).2 ≠ (rootF (mulF a 2)).2 := by
  have h2 : mulF a 2 % pp ≠ 0 := by
    intro h0
    rw [Nat.mod_eq_of_lt (mulF_lt a 2)] at h0
    rcases pp_prime.dvd_mul (Nat.dvd_of_mod_eq_zero h0) with e | e
    · exact h (Nat.mod_eq_zero_of_dvd e)
    · have := Nat.le_of_dvd (by decide) e
      exact absurd this (by decide)
  have e1 := rootF_has a h
  have e2 := rootF_has _ h2
  rw [powF_mulF, two_hf] at e2
  rcases eulerF a h with e | e
  · rw [e] at e1 e2
    have f1 : (rootF a).2 = true := e1.2 rfl
    have f2 : (rootF (mulF a 2)).2 ≠ true := fun hh => absurd (e2.1 hh) (by decide)
    rw [f1]
    exact fun hh => f2 hh.symm
  · rw [e] at e1 e2
    have f1 : (rootF a).2 ≠ true := fun hh => absurd (e1.1 hh) (by decide)
    have f2 : (rootF (mulF a 2)).2 = true := e2.2 (by decide)
    rw [f2]
    exact f1
theorem rootF_one : rootF 1 = (pp - 1, true) := by
  have h1 : rootR 1 = 1 := by unfold rootR; exact powF_of_one _
  have h2 : rootT 1 = 1 := by unfold rootT; rw [h1]; decide
  unfold rootF
  rw [h2]
  decide
theorem rootF_less : (rootF (pp - 1)).2 = true := by
  rw [rootF_has _ (by decide)]
  have h : mulF (pp - 1) (pp - 1) = 1 := by decide
  rw [show hf = 1 * 14474011154664524427946373126085988481658748083205070504932198000989141204987 + 1 * 14474011154664524427946373126085988481658748083205070504932198000989141204987 by decide, Nat.one_mul, ← mulF_pow, ← powF_mulF, h, powF_of_one]
theorem rootF_two : (rootF 2).2 = false := by
  have h := rootF_has 2 (by decide)
  rw [two_hf] at h
  cases e : (rootF 2).2 with
  | false => rfl
  | true => exact absurd (h.1 e) (by decide)
theorem rootF_prod (a b : Nat) : mulF (mulF (rootF (mulF a a)).1 (rootF (mulF b b)).1) (mulF (rootF (mulF a a)).1 (rootF (mulF b b)).1) = mulF (mulF a b) (mulF a b) := by
  have h1 := rootF_sq _ (rootF_square a)
  have h2 := rootF_sq _ (rootF_square b)
  have key : ∀ x y : Nat, mulF (mulF x y) (mulF x y) = mulF (mulF x x) (mulF y y) := by
    intro x y
    unfold mulF
    rw [← Nat.mul_mod, ← Nat.mul_mod, Nat.mul_mul_mul_comm]
  rw [key, key a b, h1, h2, mulF_mod]
end Go.Proofs.YtkkgeljcgebegaaDoor
