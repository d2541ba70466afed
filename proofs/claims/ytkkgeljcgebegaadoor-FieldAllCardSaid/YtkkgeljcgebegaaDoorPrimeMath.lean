/- Plain arithmetic: Fermat's little theorem, Pocklington's test, and that 2^255 less 19 is prime. No condition. -/
namespace Go.Proofs.YtkkgeljcgebegaaDoor
set_option linter.unusedVariables false

/-- A prime. -/
def Pr (n : Nat) : Prop := 2 ≤ n ∧ ∀ d, d ∣ n → d = 1 ∨ d = n

theorem Pr.pos {p : Nat} (h : Pr p) : 0 < p := by have := h.1; omega
theorem Pr.coprime {p a : Nat} (h : Pr p) (ha : ¬ p ∣ a) : Nat.Coprime p a := by
  rcases h.2 _ (Nat.gcd_dvd_left p a) with h1 | h1
  · exact h1
  · exact absurd (h1 ▸ Nat.gcd_dvd_right p a) ha
theorem Pr.dvd_mul {p a b : Nat} (h : Pr p) (hd : p ∣ a * b) : p ∣ a ∨ p ∣ b := by
  by_cases ha : p ∣ a
  · exact .inl ha
  · exact .inr ((h.coprime ha).dvd_of_dvd_mul_left hd)
theorem Pr.dvd_pow {p a n : Nat} (h : Pr p) (hd : p ∣ a ^ n) : p ∣ a := by
  induction n with
  | zero => have := Nat.dvd_one.1 (by simpa using hd); have := h.1; omega
  | succ n ih =>
    rw [Nat.pow_succ] at hd
    rcases h.dvd_mul hd with h1 | h1
    · exact ih h1
    · exact h1
theorem has_prime (n : Nat) (h : 2 ≤ n) : ∃ r, Pr r ∧ r ∣ n := by
  induction n using Nat.strongRecOn with
  | ind n ih =>
    by_cases hp : Pr n
    · exact ⟨n, hp, Nat.dvd_refl _⟩
    · have : ∃ d, d ∣ n ∧ ¬ (d = 1 ∨ d = n) := by
        apply Classical.byContradiction
        intro hc
        exact hp ⟨h, fun d hd => Classical.byContradiction fun hn => hc ⟨d, hd, hn⟩⟩
      obtain ⟨d, hd, hn⟩ := this
      have h0 : d ≠ 0 := by rintro rfl; have := Nat.eq_zero_of_zero_dvd hd; omega
      have hle := Nat.le_of_dvd (by omega) hd
      obtain ⟨r, hr, hrd⟩ := ih d (by omega) (by omega)
      exact ⟨r, hr, Nat.dvd_trans hrd hd⟩
/-- What is no prime has a prime divisor whose square is no greater. -/
theorem small_prime (n : Nat) (h : 2 ≤ n) (hp : ¬ Pr n) : ∃ r, Pr r ∧ r ∣ n ∧ r * r ≤ n := by
  have : ∃ d, d ∣ n ∧ ¬ (d = 1 ∨ d = n) := by
    apply Classical.byContradiction
    intro hc
    exact hp ⟨h, fun d hd => Classical.byContradiction fun hn => hc ⟨d, hd, hn⟩⟩
  obtain ⟨d, ⟨e, he⟩, hn⟩ := this
  have h0 : d ≠ 0 := by rintro rfl; simp at he; omega
  have h1 : e ≠ 0 := by rintro rfl; simp at he; omega
  have h2 : e ≠ 1 := by rintro rfl; simp at he; omega
  have key : ∀ x y : Nat, n = x * y → 2 ≤ x → x ≤ y → ∃ r, Pr r ∧ r ∣ n ∧ r * r ≤ n := by
    intro x y hxy hx hle
    obtain ⟨r, hr, hrd⟩ := has_prime x hx
    have hrx := Nat.le_of_dvd (by omega) hrd
    refine ⟨r, hr, hxy ▸ Nat.dvd_mul_right_of_dvd hrd y, ?_⟩
    rw [hxy]
    exact Nat.mul_le_mul hrx (Nat.le_trans hrx hle)
  rcases Nat.le_total d e with hl | hl
  · exact key d e he (by omega) hl
  · exact key e d (by rw [he, Nat.mul_comm]) (by omega) hl

/-- How many ways to take k of n. -/
def ch : Nat → Nat → Nat
  | _, 0 => 1
  | 0, _ + 1 => 0
  | n + 1, k + 1 => ch n k + ch n (k + 1)
theorem ch_zero (n : Nat) : ch n 0 = 1 := by cases n <;> rfl
theorem ch_succ (n k : Nat) : ch (n + 1) (k + 1) = ch n k + ch n (k + 1) := rfl
theorem ch_over (n : Nat) : ∀ k, n < k → ch n k = 0 := by
  induction n with
  | zero => intro k hk; cases k with
    | zero => omega
    | succ k => rfl
  | succ n ih => intro k hk; cases k with
    | zero => omega
    | succ k => rw [ch_succ, ih k (by omega), ih (k + 1) (by omega)]
theorem ch_self (n : Nat) : ch n n = 1 := by
  induction n with
  | zero => rfl
  | succ n ih => rw [ch_succ, ih, ch_over n (n + 1) (by omega)]
theorem ch_mul (n : Nat) : ∀ k, (k + 1) * ch (n + 1) (k + 1) = (n + 1) * ch n k := by
  induction n with
  | zero => intro k; cases k with
    | zero => rfl
    | succ k => simp [ch]
  | succ n ih => intro k; cases k with
    | zero => have := ih 0; rw [ch_zero] at this ⊢; rw [ch_succ, ch_zero]; omega
    | succ j =>
      have h1 := ih j
      have h2 := ih (j + 1)
      rw [ch_succ (n + 1) (j + 1), Nat.mul_add, h2]
      have h3 : (j + 1 + 1) * ch (n + 1) (j + 1) = (n + 1) * ch n j + ch (n + 1) (j + 1) := by rw [← h1, Nat.add_mul (j + 1) 1]; omega
      rw [h3, ch_succ n j]
      generalize ch n j = x
      generalize ch n (j + 1) = y
      rw [Nat.add_mul (n + 1) 1 (x + y), Nat.mul_add]
      omega
/-- The sum of the first m of a binomial. -/
def bin (n a : Nat) : Nat → Nat
  | 0 => 0
  | m + 1 => bin n a m + ch n m * a ^ m
theorem bin_succ (n a : Nat) : ∀ m, bin (n + 1) a (m + 1) = bin n a (m + 1) + a * bin n a m := by
  intro m
  induction m with
  | zero => simp [bin, ch_zero]
  | succ m ih =>
    rw [bin, ih, ch_succ, bin, bin]
    rw [bin, Nat.mul_add, Nat.pow_succ, Nat.add_mul]
    have e1 : a * (ch n m * a ^ m) = ch n m * (a ^ m * a) := by
      rw [Nat.mul_left_comm, Nat.mul_comm a]
    rw [e1]
    omega
theorem bin_all (n a : Nat) : bin n a (n + 1) = (a + 1) ^ n := by
  induction n with
  | zero => rfl
  | succ n ih =>
    have e : (a + 1) ^ (n + 1) = (a + 1) ^ n + a * (a + 1) ^ n := by rw [Nat.pow_succ, Nat.mul_add, Nat.mul_one, Nat.mul_comm a]; omega
    rw [bin_succ, bin, ch_over n (n + 1) (by omega), ih, e]
    omega
theorem Pr.ch_dvd {p : Nat} (h : Pr p) (k : Nat) (h0 : 0 < k) (hk : k < p) : p ∣ ch p k := by
  obtain ⟨j, rfl⟩ : ∃ j, k = j + 1 := ⟨k - 1, by omega⟩
  obtain ⟨q, rfl⟩ : ∃ q, p = q + 1 := ⟨p - 1, by omega⟩
  have h1 := ch_mul q j
  rcases h.dvd_mul (a := j + 1) (b := ch (q + 1) (j + 1)) ⟨ch q j, h1⟩ with h2 | h2
  · have := Nat.le_of_dvd (by omega) h2; omega
  · exact h2
theorem Pr.bin_one {p : Nat} (h : Pr p) (a : Nat) : ∀ m, 1 ≤ m → m ≤ p → bin p a m % p = 1 := by
  intro m h1 hm
  have hp := h.1
  induction m with
  | zero => omega
  | succ m ih =>
    cases m with
    | zero => rw [show bin p a (0 + 1) = 1 by simp [bin, ch_zero]]; exact Nat.mod_eq_of_lt hp
    | succ m =>
      obtain ⟨t, ht⟩ := h.ch_dvd (m + 1) (by omega) (by omega)
      rw [bin, ht, Nat.mul_assoc, Nat.add_mul_mod_self_left]
      exact ih (by omega) (by omega)
theorem Pr.succ_pow {p : Nat} (h : Pr p) (a : Nat) : (a + 1) ^ p % p = (a ^ p + 1) % p := by
  have h1 := bin_all p a
  rw [bin, ch_self, Nat.one_mul] at h1
  rw [← h1, Nat.add_mod, h.bin_one a p (by have := h.1; omega) (Nat.le_refl _), Nat.add_mod (a ^ p) 1, Nat.add_comm]
  have h2 : 1 % p = 1 := Nat.mod_eq_of_lt h.1
  rw [h2]
/-- Fermat's little theorem. -/
theorem Pr.fermat {p : Nat} (h : Pr p) (a : Nat) : a ^ p % p = a % p := by
  induction a with
  | zero => rw [Nat.zero_pow h.pos]
  | succ a ih => rw [h.succ_pow, Nat.add_mod, ih, ← Nat.add_mod]
theorem dvd_of_mod_eq {m a b : Nat} (h : a % m = b % m) (hle : b ≤ a) : m ∣ a - b := Nat.dvd_of_mod_eq_zero (Nat.sub_mod_eq_zero_of_mod_eq h)
theorem Pr.fermat_one {p : Nat} (h : Pr p) (a : Nat) (ha : ¬ p ∣ a) : a ^ (p - 1) % p = 1 := by
  have hp := h.1
  have h1 := h.fermat a
  have h0 : 0 < a := by rcases Nat.eq_zero_or_pos a with rfl | h; exact absurd (Nat.dvd_zero p) ha; exact h
  have hpow : 0 < a ^ (p - 1) := Nat.pow_pos h0
  have h2 : a ^ p = a * a ^ (p - 1) := by rw [Nat.mul_comm, ← Nat.pow_succ]; congr 1; omega
  have h3 : p ∣ a * (a ^ (p - 1) - 1) := by
    have h4 : a ≤ a ^ p := by rw [h2]; exact Nat.le_mul_of_pos_right a hpow
    have h5 := dvd_of_mod_eq h1 h4
    rw [h2] at h5
    rwa [Nat.mul_sub, Nat.mul_one]
  rcases h.dvd_mul h3 with h4 | h4
  · exact absurd h4 ha
  · obtain ⟨t, ht⟩ := h4
    rw [show a ^ (p - 1) = 1 + p * t by omega, Nat.add_mul_mod_self_left, Nat.mod_eq_of_lt hp]

/-- A power modulo m: of what b is, n rounds at the most. -/
def pwm (m : Nat) : Nat → Nat → Nat → Nat
  | 0, _, _ => 1 % m
  | f + 1, a, n => if n = 0 then 1 % m else if n % 2 = 1 then a * pwm m f (a * a % m) (n / 2) % m else pwm m f (a * a % m) (n / 2)
theorem pwm_ok (m : Nat) : ∀ f a n, n < 2 ^ f → pwm m f a n = a ^ n % m := by
  intro f
  induction f with
  | zero => intro a n h; have : n = 0 := by simpa using h
            rw [this]; rfl
  | succ f ih =>
    intro a n h
    unfold pwm
    by_cases h0 : n = 0
    · rw [if_pos h0, h0]; rfl
    · rw [if_neg h0]
      have hh : n / 2 < 2 ^ f := by rw [Nat.pow_succ] at h; omega
      rw [ih _ _ hh, ← Nat.pow_mod, ← Nat.pow_two, ← Nat.pow_mul]
      by_cases h1 : n % 2 = 1
      · rw [if_pos h1, Nat.mul_mod, Nat.mod_mod, ← Nat.mul_mod, Nat.mul_comm, ← Nat.pow_succ]
        congr 2; omega
      · rw [if_neg h1]
        congr 2; omega

theorem pow_mod_one {m a n k : Nat} (h : a ^ n % m = 1 % m) : a ^ (n * k) % m = 1 % m := by
  rw [Nat.pow_mul, Nat.pow_mod, h, ← Nat.pow_mod, Nat.one_pow]
/-- Two powers of one exponent that are one, modulo a prime, give one at their greatest common divisor. -/
theorem pow_gcd {m a : Nat} (hm : 2 ≤ m) (hc : Nat.Coprime m a) : ∀ x y, a ^ x % m = 1 → a ^ y % m = 1 → a ^ (Nat.gcd x y) % m = 1 := by
  intro x
  induction x using Nat.strongRecOn with
  | ind x ih =>
    intro y hx hy
    by_cases h0 : x = 0
    · subst h0; rwa [Nat.gcd_zero_left]
    · rw [Nat.gcd_rec]
      refine ih (y % x) (Nat.mod_lt _ (by omega)) x ?_ hx
      have h1 : 1 % m = 1 := Nat.mod_eq_of_lt hm
      have e : a ^ y = a ^ (x * (y / x)) * a ^ (y % x) := by rw [← Nat.pow_add, Nat.div_add_mod]
      rw [e, Nat.mul_mod, pow_mod_one (k := y / x) (by rw [hx, h1]), h1, Nat.one_mul, Nat.mod_mod] at hy
      exact hy
/-- One step of Pocklington's test: a prime q in what is below p, at a base a. -/
theorem pock_dvd {p q m a r : Nat} (hp0 : 2 ≤ p) (hq : Pr q) (hm : p - 1 = q * m) (hr : Pr r) (hrp : r ∣ p) (h1 : a ^ (p - 1) % p = 1) (t : Nat) (ht : t * (a ^ m % p + (p - 1)) % p = 1) : q ∣ r - 1 := by
  have hr2 := hr.1
  have hle := Nat.le_of_dvd (by omega) hrp
  have hmod : ∀ x, x % p % r = x % r := fun x => Nat.mod_mod_of_dvd x hrp
  have hb1 : a ^ (p - 1) % r = 1 := by rw [← hmod, h1, Nat.mod_eq_of_lt hr2]
  have hra : ¬ r ∣ a := by
    intro h
    have h2 : p - 1 ≠ 0 := by omega
    have := Nat.dvd_trans h (show a ∣ a ^ (p - 1) from by rw [show p - 1 = (p - 2) + 1 by omega, Nat.pow_succ]; exact Nat.dvd_mul_left _ _)
    rw [Nat.mod_eq_zero_of_dvd this] at hb1; omega
  have hc := hr.coprime hra
  have hrb : ¬ r ∣ a ^ m := fun h => hra (hr.dvd_pow h)
  have hx : (a ^ m) ^ q % r = 1 := by rw [← Nat.pow_mul, Nat.mul_comm, ← hm]; exact hb1
  have hy : (a ^ m) ^ (r - 1) % r = 1 := hr.fermat_one _ hrb
  rcases hq.2 _ (Nat.gcd_dvd_left q (r - 1)) with h | h
  · exfalso
    have h2 := pow_gcd hr2 (hr.coprime hrb) q (r - 1) hx hy
    rw [h, Nat.pow_one] at h2
    -- a ^ m is one modulo r: then what is multiplied is nought modulo r
    have h3 : (a ^ m % p + (p - 1)) % r = 0 := by
      obtain ⟨s, hs⟩ := hrp
      have e1 : a ^ m % p % r = 1 := by rw [hmod, h2]
      have : (a ^ m % p + (p - 1)) = (a ^ m % p - 1) + p := by
        have : 0 < a ^ m % p := by rcases Nat.eq_zero_or_pos (a ^ m % p) with h | h; rw [h] at e1; simp at e1; exact h
        omega
      rw [this, hs, Nat.add_mul_mod_self_left]
      rw [hs] at e1
      rw [hs] at hle
      exact Nat.sub_mod_eq_zero_of_mod_eq (by rw [e1, Nat.mod_eq_of_lt hr2])
    have h4 : t * (a ^ m % p + (p - 1)) % p % r = 1 := by rw [ht, Nat.mod_eq_of_lt hr2]
    rw [hmod, Nat.mul_mod, h3, Nat.mul_zero, Nat.zero_mod] at h4
    omega
  · exact h ▸ Nat.gcd_dvd_right q (r - 1)
/-- Pocklington's test with one prime. -/
theorem pock1 (p q m a t : Nat) (hp : 2 ≤ p) (hq : Pr q) (hm : p - 1 = q * m) (hb : p ≤ q * q) (h1 : a ^ (p - 1) % p = 1) (ht : t * (a ^ m % p + (p - 1)) % p = 1) : Pr p := by
  apply Classical.byContradiction
  intro hn
  obtain ⟨r, hr, hrp, hrr⟩ := small_prime p hp hn
  have h := Nat.le_of_dvd (by have := hr.1; omega) (pock_dvd hp hq hm hr hrp h1 t ht)
  have : r * r ≤ q * q := by omega
  have h2 : q + 1 ≤ r := by have := hr.1; omega
  have := Nat.mul_le_mul h2 h2
  rw [Nat.add_mul, Nat.mul_add] at this
  omega
/-- Pocklington's test with two primes. -/
theorem pock2 (p q q2 m m2 a a2 t t2 : Nat) (hp : 2 ≤ p) (hq : Pr q) (hq2 : Pr q2) (hne : q ≠ q2) (hm : p - 1 = q * m) (hm2 : p - 1 = q2 * m2) (hb : p ≤ (q * q2) * (q * q2))
    (h1 : a ^ (p - 1) % p = 1) (ht : t * (a ^ m % p + (p - 1)) % p = 1) (h2 : a2 ^ (p - 1) % p = 1) (ht2 : t2 * (a2 ^ m2 % p + (p - 1)) % p = 1) : Pr p := by
  apply Classical.byContradiction
  intro hn
  obtain ⟨r, hr, hrp, hrr⟩ := small_prime p hp hn
  have hr2 := hr.1
  have d1 := pock_dvd hp hq hm hr hrp h1 t ht
  have d2 := pock_dvd hp hq2 hm2 hr hrp h2 t2 ht2
  have hco : Nat.Coprime q q2 := hq.coprime (fun h => by
    rcases hq2.2 _ h with e | e
    · have := hq.1; omega
    · exact hne e)
  have d3 : q * q2 ∣ r - 1 := hco.mul_dvd_of_dvd_of_dvd d1 d2
  have h := Nat.le_of_dvd (by omega) d3
  generalize q * q2 = z at *
  have h3 : z + 1 ≤ r := by omega
  have := Nat.mul_le_mul h3 h3
  rw [Nat.add_mul, Nat.mul_add] at this
  omega
theorem pock1w (p q m a t : Nat) (hp : 2 ≤ p) (hp2 : p < 2 ^ 256) (hq : Pr q) (hm : p - 1 = q * m) (hb : p ≤ q * q) (h1 : pwm p 256 a (p - 1) = 1) (ht : t * (pwm p 256 a m + (p - 1)) % p = 1) : Pr p := by
  have hmm : m ≤ p - 1 := by rw [hm]; exact Nat.le_mul_of_pos_left m hq.pos
  rw [pwm_ok p 256 a _ (by omega)] at h1 ht
  exact pock1 p q m a t hp hq hm hb h1 ht
theorem pock2w (p q q2 m m2 a a2 t t2 : Nat) (hp : 2 ≤ p) (hp2 : p < 2 ^ 256) (hq : Pr q) (hq2 : Pr q2) (hne : q ≠ q2) (hm : p - 1 = q * m) (hm2 : p - 1 = q2 * m2) (hb : p ≤ (q * q2) * (q * q2))
    (h1 : pwm p 256 a (p - 1) = 1) (ht : t * (pwm p 256 a m + (p - 1)) % p = 1) (h2 : pwm p 256 a2 (p - 1) = 1) (ht2 : t2 * (pwm p 256 a2 m2 + (p - 1)) % p = 1) : Pr p := by
  have hmm : m ≤ p - 1 := by rw [hm]; exact Nat.le_mul_of_pos_left m hq.pos
  have hmm2 : m2 ≤ p - 1 := by rw [hm2]; exact Nat.le_mul_of_pos_left m2 hq2.pos
  rw [pwm_ok p 256 a _ (by omega)] at h1 ht
  rw [pwm_ok p 256 a2 _ (by omega)] at h2 ht2
  exact pock2 p q q2 m m2 a a2 t t2 hp hq hq2 hne hm hm2 hb h1 ht h2 ht2
/-- Trial division, from d on, n rounds. -/
def noDiv (n : Nat) : Nat → Nat → Bool
  | 0, _ => true
  | f + 1, d => n % d != 0 && noDiv n f (d + 1)
theorem noDiv_ok (n : Nat) : ∀ f d, noDiv n f d = true → ∀ e, d ≤ e → e < d + f → ¬ e ∣ n := by
  intro f
  induction f with
  | zero => intro d h e h1 h2; omega
  | succ f ih =>
    intro d h e h1 h2 hd
    unfold noDiv at h
    rw [Bool.and_eq_true] at h
    by_cases he : e = d
    · subst he
      have h3 := h.1
      rw [Nat.mod_eq_zero_of_dvd hd] at h3
      simp at h3
    · exact ih (d + 1) h.2 e (by omega) (by omega) hd
theorem trial (n f : Nat) (h : 2 ≤ n) (hf : n < (f + 2) * (f + 2)) (hd : noDiv n f 2 = true) : Pr n := by
  apply Classical.byContradiction
  intro hn
  obtain ⟨r, hr, hrp, hrr⟩ := small_prime n h hn
  refine noDiv_ok n f 2 hd r hr.1 ?_ hrp
  rcases Nat.lt_or_ge r (2 + f) with h | h
  · exact h
  · have := Nat.mul_le_mul h h
    rw [Nat.add_comm 2 f] at this
    omega

end Go.Proofs.YtkkgeljcgebegaaDoor
