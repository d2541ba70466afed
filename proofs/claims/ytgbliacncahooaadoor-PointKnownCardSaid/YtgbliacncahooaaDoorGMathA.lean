/- Several texts, one behind the other; each says by itself what it proves, and on what conditions. -/
/- Plain arithmetic: Fermat's little theorem, Pocklington's test, and that 2^255 less 19 is prime. No condition. -/
namespace Go.Proofs.YtgbliacncahooaaDoor
set_option linter.unusedVariables false

/-- A prime. -/
def Pr (n : Nat) : Prop := 2 ≤ n ∧ ∀ d, d ∣ n → d = 1 ∨ d = n

theorem Pr.pos {p : Nat} (h : Pr p) : 0 < p := by have := h.1; omega
theorem Pr.coprime {p a : Nat} (h : Pr p) (ha : ¬ p ∣ a) : Nat.Coprime p a := by
  rcases h.2 _ (Nat.gcd_dvd_left p a) with h1 | h1
  · exact h1
  · exact absurd (h1 ▸ Nat.gcd_dvd_right p a) ha
theorem Pr.dvd_mul {p a b : Nat} (h : Pr p) (hd : p ∣ a * b) : p ∣ a ∨ p ∣ b := by
  by_cases ha : p ∣ a
  · exact .inl ha
  · exact .inr ((h.coprime ha).dvd_of_dvd_mul_left hd)
theorem Pr.dvd_pow {p a n : Nat} (h : Pr p) (hd : p ∣ a ^ n) : p ∣ a := by
  induction n with
  | zero => have := Nat.dvd_one.1 (by simpa using hd); have := h.1; omega
  | succ n ih =>
    rw [Nat.pow_succ] at hd
    rcases h.dvd_mul hd with h1 | h1
    · exact ih h1
    · exact h1
theorem has_prime (n : Nat) (h : 2 ≤ n) : ∃ r, Pr r ∧ r ∣ n := by
  induction n using Nat.strongRecOn with
  | ind n ih =>
    by_cases hp : Pr n
    · exact ⟨n, hp, Nat.dvd_refl _⟩
    · have : ∃ d, d ∣ n ∧ ¬ (d = 1 ∨ d = n) := by
        apply Classical.byContradiction
        intro hc
        exact hp ⟨h, fun d hd => Classical.byContradiction fun hn => hc ⟨d, hd, hn⟩⟩
      obtain ⟨d, hd, hn⟩ := this
      have h0 : d ≠ 0 := by rintro rfl; have := Nat.eq_zero_of_zero_dvd hd; omega
      have hle := Nat.le_of_dvd (by omega) hd
      obtain ⟨r, hr, hrd⟩ := ih d (by omega) (by omega)
      exact ⟨r, hr, Nat.dvd_trans hrd hd⟩
/-- What is no prime has a prime divisor whose square is no greater. -/
theorem small_prime (n : Nat) (h : 2 ≤ n) (hp : ¬ Pr n) : ∃ r, Pr r ∧ r ∣ n ∧ r * r ≤ n := by
  have : ∃ d, d ∣ n ∧ ¬ (d = 1 ∨ d = n) := by
    apply Classical.byContradiction
    intro hc
    exact hp ⟨h, fun d hd => Classical.byContradiction fun hn => hc ⟨d, hd, hn⟩⟩
  obtain ⟨d, ⟨e, he⟩, hn⟩ := this
  have h0 : d ≠ 0 := by rintro rfl; simp at he; omega
  have h1 : e ≠ 0 := by rintro rfl; simp at he; omega
  have h2 : e ≠ 1 := by rintro rfl; simp at he; omega
  have key : ∀ x y : Nat, n = x * y → 2 ≤ x → x ≤ y → ∃ r, Pr r ∧ r ∣ n ∧ r * r ≤ n := by
    intro x y hxy hx hle
    obtain ⟨r, hr, hrd⟩ := has_prime x hx
    have hrx := Nat.le_of_dvd (by omega) hrd
    refine ⟨r, hr, hxy ▸ Nat.dvd_mul_right_of_dvd hrd y, ?_⟩
    rw [hxy]
    exact Nat.mul_le_mul hrx (Nat.le_trans hrx hle)
  rcases Nat.le_total d e with hl | hl
  · exact key d e he (by omega) hl
  · exact key e d (by rw [he, Nat.mul_comm]) (by omega) hl

/-- How many ways to take k of n. -/
def ch : Nat → Nat → Nat
  | _, 0 => 1
  | 0, _ + 1 => 0
  | n + 1, k + 1 => ch n k + ch n (k + 1)
theorem ch_zero (n : Nat) : ch n 0 = 1 := by cases n <;> rfl
theorem ch_succ (n k : Nat) : ch (n + 1) (k + 1) = ch n k + ch n (k + 1) := rfl
theorem ch_over (n : Nat) : ∀ k, n < k → ch n k = 0 := by
  induction n with
  | zero => intro k hk; cases k with
    | zero => omega
    | succ k => rfl
  | succ n ih => intro k hk; cases k with
    | zero => omega
    | succ k => rw [ch_succ, ih k (by omega), ih (k + 1) (by omega)]
theorem ch_self (n : Nat) : ch n n = 1 := by
  induction n with
  | zero => rfl
  | succ n ih => rw [ch_succ, ih, ch_over n (n + 1) (by omega)]
theorem ch_mul (n : Nat) : ∀ k, (k + 1) * ch (n + 1) (k + 1) = (n + 1) * ch n k := by
  induction n with
  | zero => intro k; cases k with
    | zero => rfl
    | succ k => simp [ch]
  | succ n ih => intro k; cases k with
    | zero => have := ih 0; rw [ch_zero] at this ⊢; rw [ch_succ, ch_zero]; omega
    | succ j =>
      have h1 := ih j
      have h2 := ih (j + 1)
      rw [ch_succ (n + 1) (j + 1), Nat.mul_add, h2]
      have h3 : (j + 1 + 1) * ch (n + 1) (j + 1) = (n + 1) * ch n j + ch (n + 1) (j + 1) := by rw [← h1, Nat.add_mul (j + 1) 1]; omega
      rw [h3, ch_succ n j]
      generalize ch n j = x
      generalize ch n (j + 1) = y
      rw [Nat.add_mul (n + 1) 1 (x + y), Nat.mul_add]
      omega
/-- The sum of the first m of a binomial. -/
def bin (n a : Nat) : Nat → Nat
  | 0 => 0
  | m + 1 => bin n a m + ch n m * a ^ m
theorem bin_succ (n a : Nat) : ∀ m, bin (n + 1) a (m + 1) = bin n a (m + 1) + a * bin n a m := by
  intro m
  induction m with
  | zero => simp [bin, ch_zero]
  | succ m ih =>
    rw [bin, ih, ch_succ, bin, bin]
    rw [bin, Nat.mul_add, Nat.pow_succ, Nat.add_mul]
    have e1 : a * (ch n m * a ^ m) = ch n m * (a ^ m * a) := by
      rw [Nat.mul_left_comm, Nat.mul_comm a]
    rw [e1]
    omega
theorem bin_all (n a : Nat) : bin n a (n + 1) = (a + 1) ^ n := by
  induction n with
  | zero => rfl
  | succ n ih =>
    have e : (a + 1) ^ (n + 1) = (a + 1) ^ n + a * (a + 1) ^ n := by rw [Nat.pow_succ, Nat.mul_add, Nat.mul_one, Nat.mul_comm a]; omega
    rw [bin_succ, bin, ch_over n (n + 1) (by omega), ih, e]
    omega
theorem Pr.ch_dvd {p : Nat} (h : Pr p) (k : Nat) (h0 : 0 < k) (hk : k < p) : p ∣ ch p k := by
  obtain ⟨j, rfl⟩ : ∃ j, k = j + 1 := ⟨k - 1, by omega⟩
  obtain ⟨q, rfl⟩ : ∃ q, p = q + 1 := ⟨p - 1, by omega⟩
  have h1 := ch_mul q j
  rcases h.dvd_mul (a := j + 1) (b := ch (q + 1) (j + 1)) ⟨ch q j, h1⟩ with h2 | h2
  · have := Nat.le_of_dvd (by omega) h2; omega
  · exact h2
theorem Pr.bin_one {p : Nat} (h : Pr p) (a : Nat) : ∀ m, 1 ≤ m → m ≤ p → bin p a m % p = 1 := by
  intro m h1 hm
  have hp := h.1
  induction m with
  | zero => omega
  | succ m ih =>
    cases m with
    | zero => rw [show bin p a (0 + 1) = 1 by simp [bin, ch_zero]]; exact Nat.mod_eq_of_lt hp
    | succ m =>
      obtain ⟨t, ht⟩ := h.ch_dvd (m + 1) (by omega) (by omega)
      rw [bin, ht, Nat.mul_assoc, Nat.add_mul_mod_self_left]
      exact ih (by omega) (by omega)
theorem Pr.succ_pow {p : Nat} (h : Pr p) (a : Nat) : (a + 1) ^ p % p = (a ^ p + 1) % p := by
  have h1 := bin_all p a
  rw [bin, ch_self, Nat.one_mul] at h1
  rw [← h1, Nat.add_mod, h.bin_one a p (by have := h.1; omega) (Nat.le_refl _), Nat.add_mod (a ^ p) 1, Nat.add_comm]
  have h2 : 1 % p = 1 := Nat.mod_eq_of_lt h.1
  rw [h2]
/-- Fermat's little theorem. -/
theorem Pr.fermat {p : Nat} (h : Pr p) (a : Nat) : a ^ p % p = a % p := by
  induction a with
  | zero => rw [Nat.zero_pow h.pos]
  | succ a ih => rw [h.succ_pow, Nat.add_mod, ih, ← Nat.add_mod]
theorem dvd_of_mod_eq {m a b : Nat} (h : a % m = b % m) (hle : b ≤ a) : m ∣ a - b := Nat.dvd_of_mod_eq_zero (Nat.sub_mod_eq_zero_of_mod_eq h)
theorem Pr.fermat_one {p : Nat} (h : Pr p) (a : Nat) (ha : ¬ p ∣ a) : a ^ (p - 1) % p = 1 := by
  have hp := h.1
  have h1 := h.fermat a
  have h0 : 0 < a := by rcases Nat.eq_zero_or_pos a with rfl | h; exact absurd (Nat.dvd_zero p) ha; exact h
  have hpow : 0 < a ^ (p - 1) := Nat.pow_pos h0
  have h2 : a ^ p = a * a ^ (p - 1) := by rw [Nat.mul_comm, ← Nat.pow_succ]; congr 1; omega
  have h3 : p ∣ a * (a ^ (p - 1) - 1) := by
    have h4 : a ≤ a ^ p := by rw [h2]; exact Nat.le_mul_of_pos_right a hpow
    have h5 := dvd_of_mod_eq h1 h4
    rw [h2] at h5
    rwa [Nat.mul_sub, Nat.mul_one]
  rcases h.dvd_mul h3 with h4 | h4
  · exact absurd h4 ha
  · obtain ⟨t, ht⟩ := h4
    rw [show a ^ (p - 1) = 1 + p * t by omega, Nat.add_mul_mod_self_left, Nat.mod_eq_of_lt hp]

/-- A power modulo m: of what b is, n rounds at the most. -/
def pwm (m : Nat) : Nat → Nat → Nat → Nat
  | 0, _, _ => 1 % m
  | f + 1, a, n => if n = 0 then 1 % m else if n % 2 = 1 then a * pwm m f (a * a % m) (n / 2) % m else pwm m f (a * a % m) (n / 2)
theorem pwm_ok (m : Nat) : ∀ f a n, n < 2 ^ f → pwm m f a n = a ^ n % m := by
  intro f
  induction f with
  | zero => intro a n h; have : n = 0 := by simpa using h
            rw [this]; rfl
  | succ f ih =>
    intro a n h
    unfold pwm
    by_cases h0 : n = 0
    · rw [if_pos h0, h0]; rfl
    · rw [if_neg h0]
      have hh : n / 2 < 2 ^ f := by rw [Nat.pow_succ] at h; omega
      rw [ih _ _ hh, ← Nat.pow_mod, ← Nat.pow_two, ← Nat.pow_mul]
      by_cases h1 : n % 2 = 1
      · rw [if_pos h1, Nat.mul_mod, Nat.mod_mod, ← Nat.mul_mod, Nat.mul_comm, ← Nat.pow_succ]
        congr 2; omega
      · rw [if_neg h1]
        congr 2; omega

theorem pow_mod_one {m a n k : Nat} (h : a ^ n % m = 1 % m) : a ^ (n * k) % m = 1 % m := by
  rw [Nat.pow_mul, Nat.pow_mod, h, ← Nat.pow_mod, Nat.one_pow]
/-- Two powers of one exponent that are one, modulo a prime, give one at their greatest common divisor. -/
theorem pow_gcd {m a : Nat} (hm : 2 ≤ m) (hc : Nat.Coprime m a) : ∀ x y, a ^ x % m = 1 → a ^ y % m = 1 → a ^ (Nat.gcd x y) % m = 1 := by
  intro x
  induction x using Nat.strongRecOn with
  | ind x ih =>
    intro y hx hy
    by_cases h0 : x = 0
    · subst h0; rwa [Nat.gcd_zero_left]
    · rw [Nat.gcd_rec]
      refine ih (y % x) (Nat.mod_lt _ (by omega)) x ?_ hx
      have h1 : 1 % m = 1 := Nat.mod_eq_of_lt hm
      have e : a ^ y = a ^ (x * (y / x)) * a ^ (y % x) := by rw [← Nat.pow_add, Nat.div_add_mod]
      rw [e, Nat.mul_mod, pow_mod_one (k := y / x) (by rw [hx, h1]), h1, Nat.one_mul, Nat.mod_mod] at hy
      exact hy
/-- One step of Pocklington's test: a prime q in what is below p, at a base a. -/
theorem pock_dvd {p q m a r : Nat} (hp0 : 2 ≤ p) (hq : Pr q) (hm : p - 1 = q * m) (hr : Pr r) (hrp : r ∣ p) (h1 : a ^ (p - 1) % p = 1) (t : Nat) (ht : t * (a ^ m % p + (p - 1)) % p = 1) : q ∣ r - 1 := by
  have hr2 := hr.1
  have hle := Nat.le_of_dvd (by omega) hrp
  have hmod : ∀ x, x % p % r = x % r := fun x => Nat.mod_mod_of_dvd x hrp
  have hb1 : a ^ (p - 1) % r = 1 := by rw [← hmod, h1, Nat.mod_eq_of_lt hr2]
  have hra : ¬ r ∣ a := by
    intro h
    have h2 : p - 1 ≠ 0 := by omega
    have := Nat.dvd_trans h (show a ∣ a ^ (p - 1) from by rw [show p - 1 = (p - 2) + 1 by omega, Nat.pow_succ]; exact Nat.dvd_mul_left _ _)
    rw [Nat.mod_eq_zero_of_dvd this] at hb1; omega
  have hc := hr.coprime hra
  have hrb : ¬ r ∣ a ^ m := fun h => hra (hr.dvd_pow h)
  have hx : (a ^ m) ^ q % r = 1 := by rw [← Nat.pow_mul, Nat.mul_comm, ← hm]; exact hb1
  have hy : (a ^ m) ^ (r - 1) % r = 1 := hr.fermat_one _ hrb
  rcases hq.2 _ (Nat.gcd_dvd_left q (r - 1)) with h | h
  · exfalso
    have h2 := pow_gcd hr2 (hr.coprime hrb) q (r - 1) hx hy
    rw [h, Nat.pow_one] at h2
    -- a ^ m is one modulo r: then what is multiplied is nought modulo r
    have h3 : (a ^ m % p + (p - 1)) % r = 0 := by
      obtain ⟨s, hs⟩ := hrp
      have e1 : a ^ m % p % r = 1 := by rw [hmod, h2]
      have : (a ^ m % p + (p - 1)) = (a ^ m % p - 1) + p := by
        have : 0 < a ^ m % p := by rcases Nat.eq_zero_or_pos (a ^ m % p) with h | h; rw [h] at e1; simp at e1; exact h
        omega
      rw [this, hs, Nat.add_mul_mod_self_left]
      rw [hs] at e1
      rw [hs] at hle
      exact Nat.sub_mod_eq_zero_of_mod_eq (by rw [e1, Nat.mod_eq_of_lt hr2])
    have h4 : t * (a ^ m % p + (p - 1)) % p % r = 1 := by rw [ht, Nat.mod_eq_of_lt hr2]
    rw [hmod, Nat.mul_mod, h3, Nat.mul_zero, Nat.zero_mod] at h4
    omega
  · exact h ▸ Nat.gcd_dvd_right q (r - 1)
/-- Pocklington's test with one prime. -/
theorem pock1 (p q m a t : Nat) (hp : 2 ≤ p) (hq : Pr q) (hm : p - 1 = q * m) (hb : p ≤ q * q) (h1 : a ^ (p - 1) % p = 1) (ht : t * (a ^ m % p + (p - 1)) % p = 1) : Pr p := by
  apply Classical.byContradiction
  intro hn
  obtain ⟨r, hr, hrp, hrr⟩ := small_prime p hp hn
  have h := Nat.le_of_dvd (by have := hr.1; omega) (pock_dvd hp hq hm hr hrp h1 t ht)
  have : r * r ≤ q * q := by omega
  have h2 : q + 1 ≤ r := by have := hr.1; omega
  have := Nat.mul_le_mul h2 h2
  rw [Nat.add_mul, Nat.mul_add] at this
  omega
/-- Pocklington's test with two primes. -/
theorem pock2 (p q q2 m m2 a a2 t t2 : Nat) (hp : 2 ≤ p) (hq : Pr q) (hq2 : Pr q2) (hne : q ≠ q2) (hm : p - 1 = q * m) (hm2 : p - 1 = q2 * m2) (hb : p ≤ (q * q2) * (q * q2))
    (h1 : a ^ (p - 1) % p = 1) (ht : t * (a ^ m % p + (p - 1)) % p = 1) (h2 : a2 ^ (p - 1) % p = 1) (ht2 : t2 * (a2 ^ m2 % p + (p - 1)) % p = 1) : Pr p := by
  apply Classical.byContradiction
  intro hn
  obtain ⟨r, hr, hrp, hrr⟩ := small_prime p hp hn
  have hr2 := hr.1
  have d1 := pock_dvd hp hq hm hr hrp h1 t ht
  have d2 := pock_dvd hp hq2 hm2 hr hrp h2 t2 ht2
  have hco : Nat.Coprime q q2 := hq.coprime (fun h => by
    rcases hq2.2 _ h with e | e
    · have := hq.1; omega
    · exact hne e)
  have d3 : q * q2 ∣ r - 1 := hco.mul_dvd_of_dvd_of_dvd d1 d2
  have h := Nat.le_of_dvd (by omega) d3
  generalize q * q2 = z at *
  have h3 : z + 1 ≤ r := by omega
  have := Nat.mul_le_mul h3 h3
  rw [Nat.add_mul, Nat.mul_add] at this
  omega
theorem pock1w (p q m a t : Nat) (hp : 2 ≤ p) (hp2 : p < 2 ^ 256) (hq : Pr q) (hm : p - 1 = q * m) (hb : p ≤ q * q) (h1 : pwm p 256 a (p - 1) = 1) (ht : t * (pwm p 256 a m + (p - 1)) % p = 1) : Pr p := by
  have hmm : m ≤ p - 1 := by rw [hm]; exact Nat.le_mul_of_pos_left m hq.pos
  rw [pwm_ok p 256 a _ (by omega)] at h1 ht
  exact pock1 p q m a t hp hq hm hb h1 ht
theorem pock2w (p q q2 m m2 a a2 t t2 : Nat) (hp : 2 ≤ p) (hp2 : p < 2 ^ 256) (hq : Pr q) (hq2 : Pr q2) (hne : q ≠ q2) (hm : p - 1 = q * m) (hm2 : p - 1 = q2 * m2) (hb : p ≤ (q * q2) * (q * q2))
    (h1 : pwm p 256 a (p - 1) = 1) (ht : t * (pwm p 256 a m + (p - 1)) % p = 1) (h2 : pwm p 256 a2 (p - 1) = 1) (ht2 : t2 * (pwm p 256 a2 m2 + (p - 1)) % p = 1) : Pr p := by
  have hmm : m ≤ p - 1 := by rw [hm]; exact Nat.le_mul_of_pos_left m hq.pos
  have hmm2 : m2 ≤ p - 1 := by rw [hm2]; exact Nat.le_mul_of_pos_left m2 hq2.pos
  rw [pwm_ok p 256 a _ (by omega)] at h1 ht
  rw [pwm_ok p 256 a2 _ (by omega)] at h2 ht2
  exact pock2 p q q2 m m2 a a2 t t2 hp hq hq2 hne hm hm2 hb h1 ht h2 ht2
/-- Trial division, from d on, n rounds. -/
def noDiv (n : Nat) : Nat → Nat → Bool
  | 0, _ => true
  | f + 1, d => n % d != 0 && noDiv n f (d + 1)
theorem noDiv_ok (n : Nat) : ∀ f d, noDiv n f d = true → ∀ e, d ≤ e → e < d + f → ¬ e ∣ n := by
  intro f
  induction f with
  | zero => intro d h e h1 h2; omega
  | succ f ih =>
    intro d h e h1 h2 hd
    unfold noDiv at h
    rw [Bool.and_eq_true] at h
    by_cases he : e = d
    · subst he
      have h3 := h.1
      rw [Nat.mod_eq_zero_of_dvd hd] at h3
      simp at h3
    · exact ih (d + 1) h.2 e (by omega) (by omega) hd
theorem trial (n f : Nat) (h : 2 ≤ n) (hf : n < (f + 2) * (f + 2)) (hd : noDiv n f 2 = true) : Pr n := by
  apply Classical.byContradiction
  intro hn
  obtain ⟨r, hr, hrp, hrr⟩ := small_prime n h hn
  refine noDiv_ok n f 2 hd r hr.1 ?_ hrp
  rcases Nat.lt_or_ge r (2 + f) with h | h
  · exact h
  · have := Nat.mul_le_mul h h
    rw [Nat.add_comm 2 f] at this
    omega

end Go.Proofs.YtgbliacncahooaaDoor
/- 2^255 less 19 is prime: by Pocklington's test, prime by prime. No condition. -/
namespace Go.Proofs.YtgbliacncahooaaDoor
theorem pr_1923133 : Pr 1923133 := trial 1923133 1386 (by decide) (by decide) (by decide +kernel)
theorem pr_75707 : Pr 75707 := trial 75707 275 (by decide) (by decide) (by decide +kernel)
theorem pr_8574133 : Pr 8574133 := trial 8574133 2928 (by decide) (by decide) (by decide +kernel)
theorem pr_127 : Pr 127 := trial 127 11 (by decide) (by decide) (by decide +kernel)
theorem pr_1919519569386763 : Pr 1919519569386763 :=
  pock2w 1919519569386763 8574133 127 223873314 15114327318006 2 2 1290547218147893 1870148777187772 (by decide +kernel) (by decide +kernel) pr_8574133 pr_127 (by decide +kernel) (by decide +kernel) (by decide +kernel) (by decide +kernel) (by decide +kernel) (by decide +kernel) (by decide +kernel) (by decide +kernel)
theorem pr_75445702479781427272750846543864801 : Pr 75445702479781427272750846543864801 :=
  pock2w 75445702479781427272750846543864801 1919519569386763 75707 39304471641247389600 996548568557483816196003626400 2 2 74602835786463724888147869570305675 8986369574106813140303762220009459 (by decide +kernel) (by decide +kernel) pr_1919519569386763 pr_75707 (by decide +kernel) (by decide +kernel) (by decide +kernel) (by decide +kernel) (by decide +kernel) (by decide +kernel) (by decide +kernel) (by decide +kernel)
theorem pr_74058212732561358302231226437062788676166966415465897661863160754340907 : Pr 74058212732561358302231226437062788676166966415465897661863160754340907 :=
  pock2w 74058212732561358302231226437062788676166966415465897661863160754340907 75445702479781427272750846543864801 1923133 981609426360740691344999861639072106 38509147694185143878364744631319200843710219946028640589009268082 2 2 70463328703800545008217672123162676565183935400628861884889913886334520 42667922733402173883383430511031973246347600196095044695562289082088131 (by decide +kernel) (by decide +kernel) pr_75445702479781427272750846543864801 pr_1923133 (by decide +kernel) (by decide +kernel) (by decide +kernel) (by decide +kernel) (by decide +kernel) (by decide +kernel) (by decide +kernel) (by decide +kernel)
theorem pr_57896044618658097711785492504343953926634992332820282019728792003956564819949 : Pr 57896044618658097711785492504343953926634992332820282019728792003956564819949 :=
  pock1w 57896044618658097711785492504343953926634992332820282019728792003956564819949 74058212732561358302231226437062788676166966415465897661863160754340907 781764 2 55540832096118778044507775605005710249233119951144946814680141076505643269084 (by decide +kernel) (by decide +kernel) pr_74058212732561358302231226437062788676166966415465897661863160754340907 (by decide +kernel) (by decide +kernel) (by decide +kernel) (by decide +kernel)
/-- The prime. -/
def pp : Nat := 57896044618658097711785492504343953926634992332820282019728792003956564819949
theorem pp_prime : Pr pp := pr_57896044618658097711785492504343953926634992332820282019728792003956564819949
end Go.Proofs.YtgbliacncahooaaDoor
/- Numbers modulo 2^255 less 19 as plain arithmetic: powers by rows of bits, inverses, roots. No condition. -/
namespace Go.Proofs.YtgbliacncahooaaDoor
set_option linter.unusedVariables false

/-- The sum, the difference, the product modulo the prime. -/
def addF (a b : Nat) : Nat := (a + b) % pp
def subF (a b : Nat) : Nat := (a + 3 * pp - b) % pp
def mulF (a b : Nat) : Nat := a * b % pp
theorem pp_pos : 0 < pp := by decide
theorem addF_lt (a b : Nat) : addF a b < pp := Nat.mod_lt _ pp_pos
theorem subF_lt (a b : Nat) : subF a b < pp := Nat.mod_lt _ pp_pos
theorem mulF_lt (a b : Nat) : mulF a b < pp := Nat.mod_lt _ pp_pos
theorem pp_lt {n : Nat} (h : n < pp) : n < 115792089237316195423570985008687907853269984665640564039457584007913129639936 := Nat.lt_trans h (by decide)
/-- A power modulo the prime. -/
def powF (a e : Nat) : Nat := a ^ e % pp
theorem powF_lt (a e : Nat) : powF a e < pp := Nat.mod_lt _ pp_pos
theorem mulF_mod (a b : Nat) : mulF (a % pp) (b % pp) = mulF a b := by unfold mulF; rw [← Nat.mul_mod]
theorem mulF_modl (a b : Nat) : mulF (a % pp) b = mulF a b := by unfold mulF; rw [Nat.mod_mul_mod]
theorem mulF_modr (a b : Nat) : mulF a (b % pp) = mulF a b := by unfold mulF; rw [Nat.mul_mod_mod]
theorem mulF_pow (a e f : Nat) : mulF (powF a e) (powF a f) = powF a (e + f) := by
  unfold mulF powF
  rw [← Nat.mul_mod, ← Nat.pow_add]
theorem powF_pow (a e f : Nat) : powF (powF a e) f = powF a (e * f) := by
  unfold powF
  rw [← Nat.pow_mod, ← Nat.pow_mul]
theorem powF_mod (a e : Nat) : powF (a % pp) e = powF a e := by unfold powF; rw [← Nat.pow_mod]
theorem powF_one (a : Nat) : powF a 1 = a % pp := by unfold powF; rw [Nat.pow_one]
theorem powF_mod_self (a e : Nat) : powF a e % pp = powF a e := Nat.mod_eq_of_lt (powF_lt a e)
/-- a squared n times over. -/
def sqF (a n : Nat) : Nat := if n = 0 then a else powF a (2 ^ n)
theorem sqF_zero (a : Nat) : sqF a 0 = a := rfl
theorem sqF_mod (a n : Nat) : sqF a n % pp = powF a (2 ^ n) := by
  unfold sqF
  split
  · rename_i h; subst h; exact (powF_one a).symm
  · exact powF_mod_self _ _
theorem sqF_succ (a n : Nat) : mulF (sqF a n) (sqF a n) = sqF a (n + 1) := by
  rw [← mulF_mod, sqF_mod, mulF_pow]
  unfold sqF
  rw [if_neg (by omega), Nat.pow_succ, Nat.mul_two]
theorem sqF_lt (a n : Nat) (ha : a < 115792089237316195423570985008687907853269984665640564039457584007913129639936) : sqF a n < 115792089237316195423570985008687907853269984665640564039457584007913129639936 := by
  unfold sqF
  split
  · exact ha
  · exact pp_lt (powF_lt _ _)
theorem sqF_pos (a n : Nat) (h : 0 < n) : sqF a n = powF a (2 ^ n) := by unfold sqF; rw [if_neg (by omega)]
/-- The power of a by 2^n less 1. -/
def onF (a n : Nat) : Nat := if n = 1 then a else powF a (2 ^ n - 1)
theorem onF_mod (a n : Nat) : onF a n % pp = powF a (2 ^ n - 1) := by
  unfold onF
  split
  · rename_i h; subst h; exact (powF_one a).symm
  · exact powF_mod_self _ _
theorem onF_lt (a n : Nat) (ha : a < 115792089237316195423570985008687907853269984665640564039457584007913129639936) : onF a n < 115792089237316195423570985008687907853269984665640564039457584007913129639936 := by
  unfold onF
  split
  · exact ha
  · exact pp_lt (powF_lt _ _)
theorem onF_one (a : Nat) : onF a 1 = a := rfl
theorem onF_pos (a n : Nat) (h : n ≠ 1) : onF a n = powF a (2 ^ n - 1) := by unfold onF; rw [if_neg h]
/-- By halves. -/
theorem onF_half (a h : Nat) (hh : 0 < h) : mulF (sqF (onF a h) h) (onF a h) = powF a (2 ^ (2 * h) - 1) := by
  rw [← mulF_mod, sqF_mod, ← powF_mod, onF_mod, powF_pow, mulF_pow]
  congr 1
  have h1 : 0 < 2 ^ h := Nat.two_pow_pos h
  have h2 : 2 ^ (2 * h) = 2 ^ h * 2 ^ h := by rw [← Nat.pow_add]; congr 1; omega
  rw [h2]
  obtain ⟨m, hm⟩ : ∃ m, 2 ^ h = m + 1 := ⟨2 ^ h - 1, by omega⟩
  rw [hm]
  simp only [Nat.add_sub_cancel, Nat.mul_add, Nat.add_mul, Nat.mul_one, Nat.one_mul]
  omega
theorem onF_even (a n h : Nat) (hh : 0 < h) (hn : n = 2 * h) : mulF (sqF (onF a h) h) (onF a h) = onF a n := by
  rw [onF_half a h hh, onF_pos a n (by omega), hn]
theorem onF_odd (a n h : Nat) (hh : 0 < h) (hn : n = 2 * h + 1) : mulF (sqF (mulF (sqF (onF a h) h) (onF a h)) 1) a = onF a n := by
  rw [onF_half a h hh, onF_pos a n (by omega), sqF_pos _ 1 (by decide), Nat.pow_one, powF_pow, ← mulF_modr, ← powF_one a, mulF_pow, hn]
  congr 1
  have h1 : 0 < 2 ^ (2 * h) := Nat.two_pow_pos _
  rw [Nat.pow_succ]
  omega
/-- The inverse. -/
def invF (a : Nat) : Nat := powF a (pp - 2)
theorem invF_lt (a : Nat) : invF a < pp := powF_lt _ _
theorem invF_eq (a : Nat) : mulF (sqF (onF a 250) 5) (mulF (sqF a 3) (onF a 2)) = invF a := by
  rw [onF_pos a 250 (by decide), onF_pos a 2 (by decide), sqF_pos _ 5 (by decide), sqF_pos _ 3 (by decide), powF_pow, mulF_pow, mulF_pow]
  unfold invF
  congr 1
end Go.Proofs.YtgbliacncahooaaDoor
/- What holds of sums, differences, products modulo 2^255 less 19. No condition but what each names. -/
namespace Go.Proofs.YtgbliacncahooaaDoor
set_option linter.unusedVariables false
theorem addF_modl (a b : Nat) : addF (a % pp) b = addF a b := by unfold addF; rw [Nat.mod_add_mod]
theorem addF_modr (a b : Nat) : addF a (b % pp) = addF a b := by unfold addF; rw [Nat.add_mod_mod]
theorem addF_comm (a b : Nat) : addF a b = addF b a := by unfold addF; rw [Nat.add_comm]
theorem mulF_comm (a b : Nat) : mulF a b = mulF b a := by unfold mulF; rw [Nat.mul_comm]
theorem addF_assoc (a b c : Nat) : addF (addF a b) c = addF a (addF b c) := by
  unfold addF; rw [Nat.mod_add_mod, Nat.add_mod_mod, Nat.add_assoc]
theorem mulF_assoc (a b c : Nat) : mulF (mulF a b) c = mulF a (mulF b c) := by
  unfold mulF; rw [Nat.mod_mul_mod, Nat.mul_mod_mod, Nat.mul_assoc]
theorem mulF_addF (a b c : Nat) : mulF a (addF b c) = addF (mulF a b) (mulF a c) := by
  unfold mulF addF; rw [Nat.mul_mod_mod, Nat.mod_add_mod, Nat.add_mod_mod, Nat.mul_add]
theorem mulF_one (a : Nat) : mulF a 1 = a % pp := by unfold mulF; rw [Nat.mul_one]
theorem mulF_zero (a : Nat) : mulF a 0 = 0 := rfl
theorem three_pp : 3 * pp = 173688133855974293135356477513031861779904976998460846059186376011869694459847 := by decide
theorem subF_self (a : Nat) (ha : a < 115792089237316195423570985008687907853269984665640564039457584007913129639936) : subF a a = 0 := by
  unfold subF
  rw [Nat.add_sub_cancel_left, Nat.mul_mod_left]
theorem subF_addF (a b : Nat) (hb : b < 115792089237316195423570985008687907853269984665640564039457584007913129639936) : subF (addF a b) b = a % pp := by
  have h3 := three_pp
  unfold subF addF
  have hle : b ≤ 3 * pp := by omega
  rw [Nat.add_sub_assoc hle, Nat.mod_add_mod, Nat.add_assoc, Nat.add_sub_cancel' hle, Nat.mul_comm, Nat.add_mul_mod_self_left]
theorem addF_subF (a b : Nat) (hb : b < 115792089237316195423570985008687907853269984665640564039457584007913129639936) : addF (subF a b) b = a % pp := by
  have h3 := three_pp
  unfold subF addF
  have hle : b ≤ 3 * pp := by omega
  rw [Nat.mod_add_mod, Nat.add_sub_assoc hle, Nat.add_assoc, Nat.sub_add_cancel hle, Nat.mul_comm, Nat.add_mul_mod_self_left]
theorem addF_order (a b c : Nat) : addF a (addF c b) = addF (addF a b) c := by rw [addF_assoc, addF_comm b c]
theorem mulF_order (a b c : Nat) : mulF a (mulF c b) = mulF (mulF a b) c := by rw [mulF_assoc, mulF_comm b c]
theorem addF_pp (a : Nat) : addF a pp = a % pp := by unfold addF; rw [Nat.add_mod_right]
theorem mulF_pp (a : Nat) : mulF a pp = 0 := by unfold mulF; rw [Nat.mul_mod_left]
/-- Two numbers whose sum is nought have one square. -/
theorem sq_of_sum (s n : Nat) (h : (s + n) % pp = 0) : mulF s s = mulF n n := by
  obtain ⟨t, ht⟩ := Nat.dvd_of_mod_eq_zero h
  unfold mulF
  have h1 : s * s + s * n = pp * (s * t) := by rw [← Nat.mul_add, ht, Nat.mul_left_comm]
  have h2 : n * n + s * n = pp * (n * t) := by rw [← Nat.add_mul, Nat.add_comm n s, ht, Nat.mul_right_comm, Nat.mul_assoc]
  rcases Nat.le_total (s * s) (n * n) with hl | hl
  · obtain ⟨d, hd⟩ := Nat.le.dest hl
    have h3 : d = pp * (n * t) - pp * (s * t) := by omega
    have h4 : pp ∣ d := by rw [h3, ← Nat.mul_sub]; exact Nat.dvd_mul_right _ _
    obtain ⟨e, rfl⟩ := h4
    rw [← hd, Nat.add_mul_mod_self_left]
  · obtain ⟨d, hd⟩ := Nat.le.dest hl
    have h3 : d = pp * (s * t) - pp * (n * t) := by omega
    have h4 : pp ∣ d := by rw [h3, ← Nat.mul_sub]; exact Nat.dvd_mul_right _ _
    obtain ⟨e, rfl⟩ := h4
    rw [← hd, Nat.add_mul_mod_self_left]
theorem subF_zero_sq (n : Nat) (hn : n < 115792089237316195423570985008687907853269984665640564039457584007913129639936) : mulF (subF 0 n) (subF 0 n) = mulF n n := by
  apply sq_of_sum
  have h := addF_subF 0 n hn
  rw [Nat.zero_mod] at h
  exact h
theorem powF_of_one (e : Nat) : powF 1 e = 1 := by unfold powF; rw [Nat.one_pow]; decide
theorem invF_one : invF 1 = 1 := powF_of_one _
theorem powF_zero_of (a e : Nat) (ha : a % pp = 0) (he : 0 < e) : powF a e = 0 := by
  rw [← powF_mod, ha]
  unfold powF
  rw [Nat.zero_pow he, Nat.zero_mod]
theorem invF_zero_of (a : Nat) (ha : a % pp = 0) : invF a = 0 := powF_zero_of a _ ha (by decide)
end Go.Proofs.YtgbliacncahooaaDoor
/- Roots modulo 2^255 less 19 as plain arithmetic: as they are told, and what holds of them. No condition but what each names. -/
namespace Go.Proofs.YtgbliacncahooaaDoor
set_option linter.unusedVariables false
/-- A number whose square is minus one. -/
def tn : Nat := 19681161376707505956807079304988542015446066515923890162744021073123829784752
/-- Half of the prime less one. -/
def hf : Nat := 28948022309329048855892746252171976963317496166410141009864396001978282409974
theorem tn_sq : mulF tn tn = pp - 1 := by decide
theorem powF_pwm (a e v : Nat) (he : e < 2 ^ 256) (h : pwm pp 256 a e = v) : powF a e = v := by
  unfold powF
  rw [← h]
  exact (pwm_ok pp 256 a e he).symm
theorem two_tn : powF 2 14474011154664524427946373126085988481658748083205070504932198000989141204987 = tn := powF_pwm 2 14474011154664524427946373126085988481658748083205070504932198000989141204987 tn (by decide) (by decide +kernel)
theorem two_hf : powF 2 hf = pp - 1 := powF_pwm 2 hf (pp - 1) (by decide) (by decide +kernel)
theorem powF_mulF (a b e : Nat) : powF (mulF a b) e = mulF (powF a e) (powF b e) := by
  unfold mulF powF
  rw [← Nat.pow_mod, Nat.mul_pow, Nat.mul_mod]
theorem fermatF (a : Nat) (h : a % pp ≠ 0) : powF a (pp - 1) = 1 := pp_prime.fermat_one a fun hd => h (Nat.mod_eq_zero_of_dvd hd)
theorem invF_mul (a : Nat) (h : a % pp ≠ 0) : mulF a (invF a) = 1 := by
  unfold invF
  rw [← mulF_modl, ← powF_one a, mulF_pow]
  exact fermatF a h
theorem sq_eq (x n : Nat) (hx : x < pp) (hn : n < pp) (h : mulF x x = mulF n n) : x = n ∨ (x + n) % pp = 0 := by
  have key : ∀ x n : Nat, x < pp → n < pp → n ≤ x → mulF x x = mulF n n → x = n ∨ (x + n) % pp = 0 := by
    intro x n hx hn hle h
    obtain ⟨d, rfl⟩ := Nat.le.dest hle
    have h1 : (n + d) * (n + d) = n * n + d * (n + d + n) := by
      rw [Nat.add_mul n d, Nat.mul_add n, Nat.mul_add d (n + d) n, Nat.mul_comm d n]
      omega
    have h2 : pp ∣ d * (n + d + n) := by
      have h3 := dvd_of_mod_eq (m := pp) (a := (n + d) * (n + d)) (b := n * n) h (by rw [h1]; omega)
      rwa [h1, Nat.add_sub_cancel_left] at h3
    rcases pp_prime.dvd_mul h2 with h3 | h3
    · left
      rcases Nat.eq_zero_or_pos d with rfl | h0
      · rfl
      · have := Nat.le_of_dvd h0 h3; omega
    · exact .inr (Nat.mod_eq_zero_of_dvd h3)
  rcases Nat.le_total n x with hl | hl
  · exact key x n hx hn hl h
  · rcases key n x hn hx hl h.symm with e | e
    · exact .inl e.symm
    · right; rw [Nat.add_comm]; exact e
theorem sq_one (x : Nat) (hx : x < pp) (h : mulF x x = 1) : x = 1 ∨ x = pp - 1 := by
  have hpp : pp = 57896044618658097711785492504343953926634992332820282019728792003956564819949 := rfl
  rcases sq_eq x 1 hx (by decide) (by rw [h]; decide) with e | e
  · exact .inl e
  · right
    obtain ⟨t, ht⟩ := Nat.dvd_of_mod_eq_zero e
    rcases t with _ | _ | t
    · simp at ht
    · omega
    · have : pp * 2 ≤ pp * (t + 1 + 1) := Nat.mul_le_mul_left _ (by omega)
      omega
theorem eulerF (a : Nat) (h : a % pp ≠ 0) : powF a hf = 1 ∨ powF a hf = pp - 1 :=
  sq_one _ (powF_lt _ _) (by rw [mulF_pow]; exact fermatF a h)
theorem neg_val (r : Nat) (h0 : 0 < r) (hr : r < pp) : subF 0 r = pp - r := by
  unfold subF
  have h3 := three_pp
  have e : 0 + 3 * pp - r = (pp - r) + 2 * pp := by omega
  rw [e, Nat.mul_comm 2 pp, Nat.add_mul_mod_self_left, Nat.mod_eq_of_lt (by omega)]
/-- The power that is tried. -/
def rootR (a : Nat) : Nat := powF a 7237005577332262213973186563042994240829374041602535252466099000494570602494
/-- It, or it turned. -/
def rootT (a : Nat) : Nat := if mulF (rootR a) (rootR a) = a % pp then rootR a else mulF (rootR a) tn
/-- The root. -/
def rootF (a : Nat) : Nat × Bool := if mulF (rootT a) (rootT a) = a % pp then (if rootT a % 2 = 1 then subF 0 (rootT a) else rootT a, true) else (0, false)
theorem rootR_lt (a : Nat) : rootR a < pp := powF_lt _ _
theorem rootT_lt (a : Nat) : rootT a < pp := by unfold rootT; split; exact rootR_lt a; exact mulF_lt _ _
theorem rootF_lt (a : Nat) : (rootF a).1 < pp := by
  unfold rootF
  split
  · show (if rootT a % 2 = 1 then subF 0 (rootT a) else rootT a) < pp
    split
    · exact subF_lt _ _
    · exact rootT_lt a
  · exact pp_pos
theorem rootF_mod (a : Nat) : rootF (a % pp) = rootF a := by
  have h : rootT (a % pp) = rootT a := by unfold rootT rootR; rw [powF_mod, Nat.mod_mod]
  unfold rootF
  rw [h, Nat.mod_mod]
theorem rootF_sq (a : Nat) (h : (rootF a).2 = true) : mulF (rootF a).1 (rootF a).1 = a % pp := by
  unfold rootF at h ⊢
  split
  · rename_i h1
    show mulF (if rootT a % 2 = 1 then subF 0 (rootT a) else rootT a) (if rootT a % 2 = 1 then subF 0 (rootT a) else rootT a) = a % pp
    split
    · rw [subF_zero_sq _ (pp_lt (rootT_lt a))]; exact h1
    · exact h1
  · rename_i h1
    rw [if_neg h1] at h
    exact absurd h (by decide)
theorem rootF_even (a : Nat) : (rootF a).1 % 2 = 0 := by
  have hpp : pp = 57896044618658097711785492504343953926634992332820282019728792003956564819949 := rfl
  unfold rootF
  split
  · show (if rootT a % 2 = 1 then subF 0 (rootT a) else rootT a) % 2 = 0
    have hl := rootT_lt a
    split
    · rename_i h
      rw [neg_val _ (by omega) hl]
      omega
    · omega
  · rfl
theorem rootF_zero (a : Nat) (h : a % pp = 0) : rootF a = (0, true) := by
  have h1 : rootR a = 0 := powF_zero_of a _ h (by decide)
  have h2 : rootT a = 0 := by unfold rootT; rw [h1, if_pos (by rw [h]; rfl)]
  unfold rootF
  rw [h2, if_pos (by rw [h]; rfl)]
  rfl
theorem rootF_has (a : Nat) (h : a % pp ≠ 0) : (rootF a).2 = true ↔ powF a hf = 1 := by
  constructor
  · intro h1
    have h2 := rootF_sq a h1
    have h3 : (rootF a).1 % pp ≠ 0 := by
      intro h0
      rw [← mulF_modl, h0] at h2
      apply h
      rw [← h2]
      unfold mulF
      rw [Nat.zero_mul, Nat.zero_mod]
    rw [← powF_mod, ← h2, powF_mulF, mulF_pow]
    exact fermatF _ h3
  · intro h1
    have hr : mulF (rootR a) (rootR a) = mulF (powF a 14474011154664524427946373126085988481658748083205070504932198000989141204987) a := by
      unfold rootR
      rw [mulF_pow, ← mulF_modr, ← powF_one a, mulF_pow]
    have hs := sq_one (powF a 14474011154664524427946373126085988481658748083205070504932198000989141204987) (powF_lt _ _) (by rw [mulF_pow]; exact h1)
    have ht : mulF (rootT a) (rootT a) = a % pp := by
      unfold rootT
      split
      · assumption
      · rename_i hn
        rcases hs with e | e
        · exact absurd (by rw [hr, e]; unfold mulF; rw [Nat.one_mul]) hn
        · have e2 : mulF (mulF (rootR a) tn) (mulF (rootR a) tn) = mulF (mulF (rootR a) (rootR a)) (mulF tn tn) := by
            unfold mulF
            rw [← Nat.mul_mod, ← Nat.mul_mod, Nat.mul_mul_mul_comm]
          rw [e2, hr, e, tn_sq, mulF_comm (pp - 1) a, mulF_assoc, show mulF (pp - 1) (pp - 1) = 1 by decide, mulF_one]
    unfold rootF
    rw [if_pos ht]
theorem rootF_square (a : Nat) : (rootF (mulF a a)).2 = true := by
  by_cases h : mulF a a % pp = 0
  · rw [rootF_zero _ h]
  · rw [rootF_has _ h]
    have ha : a % pp ≠ 0 := by
      intro h0
      apply h
      rw [← mulF_modl, h0]
      unfold mulF
      rw [Nat.zero_mul, Nat.zero_mod, Nat.zero_mod]
    rw [powF_mulF, mulF_pow]
    exact fermatF a ha
theorem rootF_square_is (a : Nat) : (rootF (mulF a a)).1 = a % pp ∨ (rootF (mulF a a)).1 = subF 0 (a % pp) := by
  have h := rootF_sq _ (rootF_square a)
  rw [Nat.mod_eq_of_lt (mulF_lt a a)] at h
  have hx := rootF_lt (mulF a a)
  generalize (rootF (mulF a a)).1 = x at *
  have hn : a % pp < pp := Nat.mod_lt _ pp_pos
  have hpp : pp = 57896044618658097711785492504343953926634992332820282019728792003956564819949 := rfl
  rcases sq_eq _ _ hx hn (h.trans (mulF_mod a a).symm) with e | e
  · exact .inl e
  · clear h
    generalize a % pp = n at *
    by_cases h0 : n = 0
    · left; subst h0
      rw [Nat.add_zero, Nat.mod_eq_of_lt hx] at e
      exact e
    · right
      rw [neg_val n (by omega) hn]
      obtain ⟨t, ht⟩ := Nat.dvd_of_mod_eq_zero e
      rcases t with _ | _ | t
      · omega
      · omega
      · have : pp * 2 ≤ pp * (t + 1 + 1) := Nat.mul_le_mul_left _ (by omega)
        omega
theorem rootF_twice (a : Nat) (h : a % pp ≠ 0) : (rootF a).2 ≠ (rootF (mulF a 2)).2 := by
  have h2 : mulF a 2 % pp ≠ 0 := by
    intro h0
    rw [Nat.mod_eq_of_lt (mulF_lt a 2)] at h0
    rcases pp_prime.dvd_mul (Nat.dvd_of_mod_eq_zero h0) with e | e
    · exact h (Nat.mod_eq_zero_of_dvd e)
    · have := Nat.le_of_dvd (by decide) e
      exact absurd this (by decide)
  have e1 := rootF_has a h
  have e2 := rootF_has _ h2
  rw [powF_mulF, two_hf] at e2
  rcases eulerF a h with e | e
  · rw [e] at e1 e2
    have f1 : (rootF a).2 = true := e1.2 rfl
    have f2 : (rootF (mulF a 2)).2 ≠ true := fun hh => absurd (e2.1 hh) (by decide)
    rw [f1]
    exact fun hh => f2 hh.symm
  · rw [e] at e1 e2
    have f1 : (rootF a).2 ≠ true := fun hh => absurd (e1.1 hh) (by decide)
    have f2 : (rootF (mulF a 2)).2 = true := e2.2 (by decide)
    rw [f2]
    exact f1
theorem rootF_one : rootF 1 = (pp - 1, true) := by
  have h1 : rootR 1 = 1 := by unfold rootR; exact powF_of_one _
  have h2 : rootT 1 = 1 := by unfold rootT; rw [h1]; decide
  unfold rootF
  rw [h2]
  decide
theorem rootF_less : (rootF (pp - 1)).2 = true := by
  rw [rootF_has _ (by decide)]
  have h : mulF (pp - 1) (pp - 1) = 1 := by decide
  rw [show hf = 1 * 14474011154664524427946373126085988481658748083205070504932198000989141204987 + 1 * 14474011154664524427946373126085988481658748083205070504932198000989141204987 by decide, Nat.one_mul, ← mulF_pow, ← powF_mulF, h, powF_of_one]
theorem rootF_two : (rootF 2).2 = false := by
  have h := rootF_has 2 (by decide)
  rw [two_hf] at h
  cases e : (rootF 2).2 with
  | false => rfl
  | true => exact absurd (h.1 e) (by decide)
theorem rootF_prod (a b : Nat) : mulF (mulF (rootF (mulF a a)).1 (rootF (mulF b b)).1) (mulF (rootF (mulF a a)).1 (rootF (mulF b b)).1) = mulF (mulF a b) (mulF a b) := by
  have h1 := rootF_sq _ (rootF_square a)
  have h2 := rootF_sq _ (rootF_square b)
  have key : ∀ x y : Nat, mulF (mulF x y) (mulF x y) = mulF (mulF x x) (mulF y y) := by
    intro x y
    unfold mulF
    rw [← Nat.mul_mod, ← Nat.mul_mod, Nat.mul_mul_mul_comm]
  rw [key, key a b, h1, h2, mulF_mod]
end Go.Proofs.YtgbliacncahooaaDoor
/- Numbers modulo 2^255 less 19 as a ring of Lean's own, where identities are proved by program; from there to sums, products, inverses of plain numbers. No condition but what each names. -/
namespace Go.Proofs.YtgbliacncahooaaDoor
set_option linter.unusedVariables false
instance ppNZ : NeZero pp := ⟨by decide⟩
/-- The ring. -/
abbrev K := Fin pp
/-- A number as one of the ring. -/
def toK (n : Nat) : K := Fin.ofNat pp n
theorem toK_val (n : Nat) : (toK n).val = n % pp := rfl
theorem toK_of (x : K) : toK x.val = x := by
  apply Fin.ext
  rw [toK_val]
  exact Nat.mod_eq_of_lt x.isLt
theorem toK_mod (n : Nat) : toK (n % pp) = toK n := by apply Fin.ext; rw [toK_val, toK_val, Nat.mod_mod]
theorem toK_inj {a b : Nat} (ha : a < pp) (hb : b < pp) (h : toK a = toK b) : a = b := by
  have h2 := congrArg Fin.val h
  rw [toK_val, toK_val, Nat.mod_eq_of_lt ha, Nat.mod_eq_of_lt hb] at h2
  exact h2
theorem toK_add (a b : Nat) : toK (addF a b) = toK a + toK b := by
  apply Fin.ext
  rw [toK_val, Fin.val_add, toK_val, toK_val]
  unfold addF
  rw [Nat.mod_mod, ← Nat.add_mod]
theorem toK_mul (a b : Nat) : toK (mulF a b) = toK a * toK b := by
  apply Fin.ext
  rw [toK_val, Fin.val_mul, toK_val, toK_val]
  unfold mulF
  rw [Nat.mod_mod, ← Nat.mul_mod]
theorem toK_zero : toK 0 = 0 := by decide
theorem toK_one : toK 1 = 1 := by decide
theorem toK_eq_zero {a : Nat} : toK a = 0 ↔ a % pp = 0 := by
  constructor
  · intro h
    have h2 := congrArg Fin.val h
    rw [toK_val] at h2
    exact h2
  · intro h
    apply Fin.ext
    rw [toK_val, h]
    rfl
theorem toK_sub (a b : Nat) (hb : b < 115792089237316195423570985008687907853269984665640564039457584007913129639936) : toK (subF a b) = toK a - toK b := by
  have h := addF_subF a b hb
  have h2 := congrArg toK h
  rw [toK_add, toK_mod] at h2
  rw [← h2]
  generalize toK (subF a b) = x
  generalize toK b = y
  grind
/-- The inverse. -/
def kinv (x : K) : K := toK (invF x.val)
theorem toK_inv (a : Nat) : toK (invF a) = kinv (toK a) := by
  unfold kinv
  rw [toK_val]
  unfold invF
  rw [powF_mod]
theorem k_mul_inv {x : K} (h : x ≠ 0) : x * kinv x = 1 := by
  have h2 : x.val % pp ≠ 0 := by
    intro h0
    apply h
    rw [← toK_of x]
    exact toK_eq_zero.2 h0
  have h3 := congrArg toK (invF_mul x.val h2)
  rw [toK_mul, toK_of, toK_one] at h3
  exact h3
theorem k_inv_zero : kinv 0 = 0 := by
  unfold kinv
  rw [show (0 : K).val = 0 from rfl, invF_zero_of 0 (Nat.zero_mod _)]
  exact toK_zero
theorem k_mul_zero {x y : K} (h : x * y = 0) : x = 0 ∨ y = 0 := by
  by_cases hx : x = 0
  · exact .inl hx
  · have h1 := k_mul_inv hx
    refine .inr ?_
    have h2 : y = kinv x * (x * y) := by grind
    rw [h2, h]
    grind
theorem k_mul_ne {x y : K} (hx : x ≠ 0) (hy : y ≠ 0) : x * y ≠ 0 := fun h => (k_mul_zero h).elim hx hy
theorem k_one_ne : (1 : K) ≠ 0 := by decide
theorem k_cancel {x y z : K} (hz : z ≠ 0) (h : x * z = y * z) : x = y := by
  have h1 := k_mul_inv hz
  have h2 : x = x * z * kinv z := by grind
  have h3 : y = y * z * kinv z := by grind
  rw [h2, h3, h]
/-- A quotient. -/
theorem k_div {x y z : K} (hz : z ≠ 0) : x = y * kinv z ↔ x * z = y := by
  have h1 := k_mul_inv hz
  constructor
  · rintro rfl
    grind
  · intro h
    rw [← h]
    grind
theorem k_inv_ne {x : K} (h : x ≠ 0) : kinv x ≠ 0 := by
  intro h2
  have h1 := k_mul_inv h
  rw [h2] at h1
  have h3 : (0 : K) = 1 := by grind
  exact k_one_ne h3.symm
/-- A square that is none. -/
theorem k_nonsq {n : Nat} (h : (rootF n).2 = false) (z : K) : z * z ≠ toK n := by
  intro e
  have h1 : toK (mulF z.val z.val) = toK n := by rw [toK_mul, toK_of]; exact e
  have h2 := rootF_square z.val
  have h3 : mulF z.val z.val % pp = n % pp := by
    have h4 := congrArg Fin.val h1
    rw [toK_val, toK_val] at h4
    exact h4
  rw [← rootF_mod, h3, rootF_mod, h] at h2
  exact absurd h2 (by decide)
/-- A number whose square is minus one. -/
def ki : K := toK tn
theorem ki_sq : ki * ki = -1 := by
  have h := congrArg toK tn_sq
  rw [toK_mul] at h
  unfold ki
  rw [h]
  decide
end Go.Proofs.YtgbliacncahooaaDoor
/- The curve Y Y - X X = 1 + d X X Y Y as plain algebra: sums are told of any two of its points, are points, whatever their order, and grouped however. No condition but what each names. -/
namespace Go.Proofs.YtgbliacncahooaaDoor
set_option linter.unusedVariables false
set_option maxHeartbeats 2000000
/-- The curve's number. -/
def dN : Nat := mulF (subF 0 121665) (invF 121666)
def dK : K := toK dN
theorem dN_lt : dN < pp := mulF_lt _ _
theorem dN_val : dN = 37095705934669439343138083508754565189542113879843219016388785533085940283555 := by
  unfold dN invF
  rw [powF_pwm 121666 (pp - 2) _ (by decide) rfl]
  decide +kernel
theorem dN_root : (rootF dN).2 = false := by
  rw [dN_val]
  cases h : (rootF 37095705934669439343138083508754565189542113879843219016388785533085940283555).2 with
  | false => rfl
  | true =>
    exfalso
    have h1 := (rootF_has _ (by decide)).1 h
    rw [powF_pwm _ hf _ (by decide) rfl] at h1
    exact absurd h1 (by decide +kernel)
theorem d_nonsq (z : K) : z * z ≠ dK := k_nonsq dN_root z
theorem assocX_id (dK x1 y1 x2 y2 x3 y3 : K) : ((x1*y2+y1*x2)*(1-(dK*x1*x2*y1*y2))*y3+(y1*y2+x1*x2)*(1+(dK*x1*x2*y1*y2))*x3)*((1-(dK*x2*x3*y2*y3)*(dK*x2*x3*y2*y3))+dK*x1*y1*(x2*y3+y2*x3)*(y2*y3+x2*x3))-(x1*(y2*y3+x2*x3)*(1+(dK*x2*x3*y2*y3))+y1*(x2*y3+y2*x3)*(1-(dK*x2*x3*y2*y3)))*((1-(dK*x1*x2*y1*y2)*(dK*x1*x2*y1*y2))+dK*(x1*y2+y1*x2)*(y1*y2+x1*x2)*x3*y3) =
    (-dK*dK*x1*x2*x2*x2*x2*x3*x3*y2*y2*y2*y3 - dK*dK*x1*x2*x2*x2*x3*y2*y2*y2*y2*y3*y3 + dK*dK*x2*x2*x2*x2*x3*y1*y2*y2*y2*y3*y3 + dK*dK*x2*x2*x2*x3*x3*y1*y2*y2*y2*y2*y3 - dK*x1*x2*x2*x2*x2*x3*x3*y2*y3 - dK*x1*x2*x2*x2*x3*x3*x3*y2*y2 - dK*x1*x2*x2*x2*x3*y2*y2 + dK*x1*x2*x2*y2*y2*y2*y3*y3*y3 - dK*x1*x2*x2*y2*y2*y2*y3 + dK*x1*x2*x3*y2*y2*y2*y2*y3*y3 + dK*x2*x2*x2*x2*x3*y1*y2*y3*y3 + dK*x2*x2*x2*y1*y2*y2*y3*y3*y3 - dK*x2*x2*x2*y1*y2*y2*y3 - dK*x2*x2*x3*x3*x3*y1*y2*y2*y2 - dK*x2*x2*x3*y1*y2*y2*y2 - dK*x2*x3*x3*y1*y2*y2*y2*y2*y3)*(y1*y1-x1*x1-1-dK*x1*x1*y1*y1) + (dK*dK*x1*x1*x2*x2*x3*x3*x3*y1*y2*y3*y3 - dK*dK*x1*x1*x2*x3*x3*y1*y2*y2*y3*y3*y3 - dK*dK*x1*x2*x2*x3*x3*y1*y1*y2*y3*y3*y3 + dK*dK*x1*x2*x3*x3*x3*y1*y1*y2*y2*y3*y3 + dK*x1*x1*x1*x2*x2*x3*x3*y2*y3 + dK*x1*x1*x1*x2*x3*x3*x3*y3*y3 + dK*x1*x1*x1*x2*x3*y2*y2*y3*y3 + dK*x1*x1*x1*x3*x3*y2*y3*y3*y3 - dK*x1*x1*x2*x2*x3*y1*y2*y3*y3 - dK*x1*x1*x2*x3*x3*y1*y2*y2*y3 + dK*x1*x1*x2*x3*x3*y1*y3*y3*y3 + dK*x1*x1*x3*x3*x3*y1*y2*y3*y3 - dK*x1*x2*x2*x3*x3*y1*y1*y2*y3 + dK*x1*x2*x2*x3*x3*y2*y3 - dK*x1*x2*x3*x3*x3*y1*y1*y3*y3 + dK*x1*x2*x3*x3*x3*y3*y3 - dK*x1*x2*x3*y1*y1*y2*y2*y3*y3 + dK*x1*x2*x3*y2*y2*y3*y3 - dK*x1*x3*x3*y1*y1*y2*y3*y3*y3 + dK*x1*x3*x3*y2*y3*y3*y3 + dK*x2*x2*x3*y1*y1*y1*y2*y3*y3 - dK*x2*x2*x3*y1*y2*y3*y3 + dK*x2*x3*x3*y1*y1*y1*y2*y2*y3 - dK*x2*x3*x3*y1*y1*y1*y3*y3*y3 - dK*x2*x3*x3*y1*y2*y2*y3 + dK*x2*x3*x3*y1*y3*y3*y3 - dK*x3*x3*x3*y1*y1*y1*y2*y3*y3 + dK*x3*x3*x3*y1*y2*y3*y3 + x1*x1*x1*x2*x3*x3*x3 - x1*x1*x1*x2*x3*y3*y3 + x1*x1*x1*x2*x3 + x1*x1*x1*x3*x3*y2*y3 - x1*x1*x1*y2*y3*y3*y3 + x1*x1*x1*y2*y3 + x1*x1*x2*x3*x3*y1*y3 - x1*x1*x2*y1*y3*y3*y3 + x1*x1*x2*y1*y3 + x1*x1*x3*x3*x3*y1*y2 - x1*x1*x3*y1*y2*y3*y3 + x1*x1*x3*y1*y2 - x1*x2*x3*x3*x3*y1*y1 + x1*x2*x3*x3*x3 + x1*x2*x3*y1*y1*y3*y3 - x1*x2*x3*y1*y1 - x1*x2*x3*y3*y3 + x1*x2*x3 - x1*x3*x3*y1*y1*y2*y3 + x1*x3*x3*y2*y3 + x1*y1*y1*y2*y3*y3*y3 - x1*y1*y1*y2*y3 - x1*y2*y3*y3*y3 + x1*y2*y3 - x2*x3*x3*y1*y1*y1*y3 + x2*x3*x3*y1*y3 + x2*y1*y1*y1*y3*y3*y3 - x2*y1*y1*y1*y3 - x2*y1*y3*y3*y3 + x2*y1*y3 - x3*x3*x3*y1*y1*y1*y2 + x3*x3*x3*y1*y2 + x3*y1*y1*y1*y2*y3*y3 - x3*y1*y1*y1*y2 - x3*y1*y2*y3*y3 + x3*y1*y2)*(y2*y2-x2*x2-1-dK*x2*x2*y2*y2) + (-dK*x1*x1*x2*x2*x3*y1*y2 + dK*x1*x1*x2*y1*y2*y2*y3 + dK*x1*x2*x2*y1*y1*y2*y3 - dK*x1*x2*x3*y1*y1*y2*y2 - x1*x1*x1*x2*x2*x2*x3 - x1*x1*x1*x2*x2*y2*y3 + x1*x1*x1*x2*x3*y2*y2 - x1*x1*x1*x2*x3 + x1*x1*x1*y2*y2*y2*y3 - x1*x1*x1*y2*y3 - x1*x1*x2*x2*x2*y1*y3 - x1*x1*x2*x2*x3*y1*y2 + x1*x1*x2*y1*y2*y2*y3 - x1*x1*x2*y1*y3 + x1*x1*x3*y1*y2*y2*y2 - x1*x1*x3*y1*y2 + x1*x2*x2*x2*x3*y1*y1 - x1*x2*x2*x2*x3 + x1*x2*x2*y1*y1*y2*y3 - x1*x2*x2*y2*y3 - x1*x2*x3*y1*y1*y2*y2 + x1*x2*x3*y1*y1 + x1*x2*x3*y2*y2 - x1*x2*x3 - x1*y1*y1*y2*y2*y2*y3 + x1*y1*y1*y2*y3 + x1*y2*y2*y2*y3 - x1*y2*y3 + x2*x2*x2*y1*y1*y1*y3 - x2*x2*x2*y1*y3 + x2*x2*x3*y1*y1*y1*y2 - x2*x2*x3*y1*y2 - x2*y1*y1*y1*y2*y2*y3 + x2*y1*y1*y1*y3 + x2*y1*y2*y2*y3 - x2*y1*y3 - x3*y1*y1*y1*y2*y2*y2 + x3*y1*y1*y1*y2 + x3*y1*y2*y2*y2 - x3*y1*y2)*(y3*y3-x3*x3-1-dK*x3*x3*y3*y3) := by grind
theorem assocY_id (dK x1 y1 x2 y2 x3 y3 : K) : ((y1*y2+x1*x2)*(1+(dK*x1*x2*y1*y2))*y3+(x1*y2+y1*x2)*(1-(dK*x1*x2*y1*y2))*x3)*((1-(dK*x2*x3*y2*y3)*(dK*x2*x3*y2*y3))-dK*x1*y1*(x2*y3+y2*x3)*(y2*y3+x2*x3))-(y1*(y2*y3+x2*x3)*(1+(dK*x2*x3*y2*y3))+x1*(x2*y3+y2*x3)*(1-(dK*x2*x3*y2*y3)))*((1-(dK*x1*x2*y1*y2)*(dK*x1*x2*y1*y2))-dK*(x1*y2+y1*x2)*(y1*y2+x1*x2)*x3*y3) =
    (dK*dK*x1*x2*x2*x2*x2*x3*y2*y2*y2*y3*y3 + dK*dK*x1*x2*x2*x2*x3*x3*y2*y2*y2*y2*y3 - dK*dK*x2*x2*x2*x2*x3*x3*y1*y2*y2*y2*y3 - dK*dK*x2*x2*x2*x3*y1*y2*y2*y2*y2*y3*y3 + dK*x1*x2*x2*x2*x2*x3*y2*y3*y3 + dK*x1*x2*x2*x2*y2*y2*y3*y3*y3 - dK*x1*x2*x2*x2*y2*y2*y3 - dK*x1*x2*x2*x3*x3*x3*y2*y2*y2 - dK*x1*x2*x2*x3*y2*y2*y2 - dK*x1*x2*x3*x3*y2*y2*y2*y2*y3 - dK*x2*x2*x2*x2*x3*x3*y1*y2*y3 - dK*x2*x2*x2*x3*x3*x3*y1*y2*y2 - dK*x2*x2*x2*x3*y1*y2*y2 + dK*x2*x2*y1*y2*y2*y2*y3*y3*y3 - dK*x2*x2*y1*y2*y2*y2*y3 + dK*x2*x3*y1*y2*y2*y2*y2*y3*y3)*(y1*y1-x1*x1-1-dK*x1*x1*y1*y1) + (dK*dK*x1*x1*x2*x2*x3*x3*y1*y2*y3*y3*y3 - dK*dK*x1*x1*x2*x3*x3*x3*y1*y2*y2*y3*y3 - dK*dK*x1*x2*x2*x3*x3*x3*y1*y1*y2*y3*y3 + dK*dK*x1*x2*x3*x3*y1*y1*y2*y2*y3*y3*y3 - dK*x1*x1*x1*x2*x2*x3*y2*y3*y3 - dK*x1*x1*x1*x2*x3*x3*y2*y2*y3 + dK*x1*x1*x1*x2*x3*x3*y3*y3*y3 + dK*x1*x1*x1*x3*x3*x3*y2*y3*y3 + dK*x1*x1*x2*x2*x3*x3*y1*y2*y3 + dK*x1*x1*x2*x3*x3*x3*y1*y3*y3 + dK*x1*x1*x2*x3*y1*y2*y2*y3*y3 + dK*x1*x1*x3*x3*y1*y2*y3*y3*y3 + dK*x1*x2*x2*x3*y1*y1*y2*y3*y3 - dK*x1*x2*x2*x3*y2*y3*y3 + dK*x1*x2*x3*x3*y1*y1*y2*y2*y3 - dK*x1*x2*x3*x3*y1*y1*y3*y3*y3 - dK*x1*x2*x3*x3*y2*y2*y3 + dK*x1*x2*x3*x3*y3*y3*y3 - dK*x1*x3*x3*x3*y1*y1*y2*y3*y3 + dK*x1*x3*x3*x3*y2*y3*y3 - dK*x2*x2*x3*x3*y1*y1*y1*y2*y3 + dK*x2*x2*x3*x3*y1*y2*y3 - dK*x2*x3*x3*x3*y1*y1*y1*y3*y3 + dK*x2*x3*x3*x3*y1*y3*y3 - dK*x2*x3*y1*y1*y1*y2*y2*y3*y3 + dK*x2*x3*y1*y2*y2*y3*y3 - dK*x3*x3*y1*y1*y1*y2*y3*y3*y3 + dK*x3*x3*y1*y2*y3*y3*y3 + x1*x1*x1*x2*x3*x3*y3 - x1*x1*x1*x2*y3*y3*y3 + x1*x1*x1*x2*y3 + x1*x1*x1*x3*x3*x3*y2 - x1*x1*x1*x3*y2*y3*y3 + x1*x1*x1*x3*y2 + x1*x1*x2*x3*x3*x3*y1 - x1*x1*x2*x3*y1*y3*y3 + x1*x1*x2*x3*y1 + x1*x1*x3*x3*y1*y2*y3 - x1*x1*y1*y2*y3*y3*y3 + x1*x1*y1*y2*y3 - x1*x2*x3*x3*y1*y1*y3 + x1*x2*x3*x3*y3 + x1*x2*y1*y1*y3*y3*y3 - x1*x2*y1*y1*y3 - x1*x2*y3*y3*y3 + x1*x2*y3 - x1*x3*x3*x3*y1*y1*y2 + x1*x3*x3*x3*y2 + x1*x3*y1*y1*y2*y3*y3 - x1*x3*y1*y1*y2 - x1*x3*y2*y3*y3 + x1*x3*y2 - x2*x3*x3*x3*y1*y1*y1 + x2*x3*x3*x3*y1 + x2*x3*y1*y1*y1*y3*y3 - x2*x3*y1*y1*y1 - x2*x3*y1*y3*y3 + x2*x3*y1 - x3*x3*y1*y1*y1*y2*y3 + x3*x3*y1*y2*y3 + y1*y1*y1*y2*y3*y3*y3 - y1*y1*y1*y2*y3 - y1*y2*y3*y3*y3 + y1*y2*y3)*(y2*y2-x2*x2-1-dK*x2*x2*y2*y2) + (-dK*x1*x1*x2*x2*y1*y2*y3 + dK*x1*x1*x2*x3*y1*y2*y2 + dK*x1*x2*x2*x3*y1*y1*y2 - dK*x1*x2*y1*y1*y2*y2*y3 - x1*x1*x1*x2*x2*x2*y3 - x1*x1*x1*x2*x2*x3*y2 + x1*x1*x1*x2*y2*y2*y3 - x1*x1*x1*x2*y3 + x1*x1*x1*x3*y2*y2*y2 - x1*x1*x1*x3*y2 - x1*x1*x2*x2*x2*x3*y1 - x1*x1*x2*x2*y1*y2*y3 + x1*x1*x2*x3*y1*y2*y2 - x1*x1*x2*x3*y1 + x1*x1*y1*y2*y2*y2*y3 - x1*x1*y1*y2*y3 + x1*x2*x2*x2*y1*y1*y3 - x1*x2*x2*x2*y3 + x1*x2*x2*x3*y1*y1*y2 - x1*x2*x2*x3*y2 - x1*x2*y1*y1*y2*y2*y3 + x1*x2*y1*y1*y3 + x1*x2*y2*y2*y3 - x1*x2*y3 - x1*x3*y1*y1*y2*y2*y2 + x1*x3*y1*y1*y2 + x1*x3*y2*y2*y2 - x1*x3*y2 + x2*x2*x2*x3*y1*y1*y1 - x2*x2*x2*x3*y1 + x2*x2*y1*y1*y1*y2*y3 - x2*x2*y1*y2*y3 - x2*x3*y1*y1*y1*y2*y2 + x2*x3*y1*y1*y1 + x2*x3*y1*y2*y2 - x2*x3*y1 - y1*y1*y1*y2*y2*y2*y3 + y1*y1*y1*y2*y3 + y1*y2*y2*y2*y3 - y1*y2*y3)*(y3*y3-x3*x3-1-dK*x3*x3*y3*y3) := by grind
theorem close_id (dK x1 y1 x2 y2 : K) : (y1*y2+x1*x2)*(y1*y2+x1*x2)*((1+(dK*x1*x2*y1*y2))*(1+(dK*x1*x2*y1*y2)))-(x1*y2+y1*x2)*(x1*y2+y1*x2)*((1-(dK*x1*x2*y1*y2))*(1-(dK*x1*x2*y1*y2)))-(1-(dK*x1*x2*y1*y2)*(dK*x1*x2*y1*y2))*(1-(dK*x1*x2*y1*y2)*(dK*x1*x2*y1*y2))-dK*((x1*y2+y1*x2)*(x1*y2+y1*x2))*((y1*y2+x1*x2)*(y1*y2+x1*x2)) =
    (dK*dK*dK*x1*x1*x2*x2*x2*x2*y1*y1*y2*y2*y2*y2 - dK*dK*x1*x1*x2*x2*x2*x2*y2*y2*y2*y2 + dK*dK*x2*x2*x2*x2*y1*y1*y2*y2*y2*y2 - dK*dK*x2*x2*x2*x2*y2*y2*y2*y2 - dK*x1*x1*x2*x2*x2*x2*y2*y2 + dK*x1*x1*x2*x2*y2*y2*y2*y2 + dK*x2*x2*x2*x2*y1*y1*y2*y2 - 2*dK*x2*x2*x2*x2*y2*y2*y2*y2 - dK*x2*x2*y1*y1*y2*y2*y2*y2 - 2*dK*x2*x2*y2*y2 - 2*x2*x2*x2*x2*y2*y2 + x2*x2*x2*x2 + 2*x2*x2*y2*y2*y2*y2 - 4*x2*x2*y2*y2 + y2*y2*y2*y2)*(y1*y1-x1*x1-1-dK*x1*x1*y1*y1) + (dK*x1*x1*x1*x1*x2*x2*y2*y2 + 2*dK*x1*x1*x2*x2*y2*y2 + dK*x2*x2*y1*y1*y1*y1*y2*y2 - 2*dK*x2*x2*y1*y1*y2*y2 + dK*x2*x2*y2*y2 + 2*x1*x1*x2*x2*y2*y2 - x1*x1*x2*x2 + x1*x1*y2*y2 - 2*x2*x2*y1*y1*y2*y2 + x2*x2*y1*y1 + 2*x2*x2*y2*y2 - x2*x2 - y1*y1*y2*y2 + y2*y2 + 1)*(y2*y2-x2*x2-1-dK*x2*x2*y2*y2) := by grind
end Go.Proofs.YtgbliacncahooaaDoor
/- The curve's points: the sum of any two is told (its denominators are not nought), is a point; sums in any order and grouped however; what is turned about takes away; products. No condition but what each names. -/
namespace Go.Proofs.YtgbliacncahooaaDoor
set_option linter.unusedVariables false
/-- On the curve. -/
def onK (x y : K) : Prop := y * y - x * x = 1 + dK * x * x * y * y
theorem not_sq_times {A B : K} (h : A * A = dK * (B * B)) : B = 0 := by
  by_cases hB : B = 0
  · exact hB
  · exfalso
    have h1 := k_mul_inv hB
    apply d_nonsq (A * kinv B)
    have h2 : A * kinv B * (A * kinv B) = A * A * (kinv B * kinv B) := by grind
    rw [h2, h]
    have h3 : dK * (B * B) * (kinv B * kinv B) = dK * ((B * kinv B) * (B * kinv B)) := by grind
    rw [h3, h1]
    grind
theorem k_two_ne : (2 : K) ≠ 0 := by decide
theorem complete_sq (x1 y1 x2 y2 e : K) (h1 : onK x1 y1) (h2 : onK x2 y2) (he : e = dK * x1 * x2 * y1 * y2) : e * e ≠ 1 := by
  intro hee
  have hi := ki_sq
  unfold onK at h1 h2
  have hx1 : x1 ≠ 0 := by rintro rfl; exact k_one_ne (by rw [← hee, he]; grind)
  have hy1 : y1 ≠ 0 := by rintro rfl; exact k_one_ne (by rw [← hee, he]; grind)
  have hy2 : y2 ≠ 0 := by rintro rfl; exact k_one_ne (by rw [← hee, he]; grind)
  have hxy := k_mul_ne hx1 hy1
  have hb : dK * x1 * x1 * y1 * y1 * (y2 * y2 - x2 * x2) = y1 * y1 - x1 * x1 := by grind
  have ha1 : (ki * x1 + e * y1) * (ki * x1 + e * y1) = dK * ((x1 * y1 * (ki * x2 + y2)) * (x1 * y1 * (ki * x2 + y2))) := by grind
  have ha2 : (ki * x1 - e * y1) * (ki * x1 - e * y1) = dK * ((x1 * y1 * (ki * x2 - y2)) * (x1 * y1 * (ki * x2 - y2))) := by grind
  have hz1 := (k_mul_zero (not_sq_times ha1)).resolve_left hxy
  have hz2 := (k_mul_zero (not_sq_times ha2)).resolve_left hxy
  have h2y : (2 : K) * y2 = 0 := by grind
  exact (k_mul_zero h2y).elim k_two_ne hy2
theorem complete_plus {x1 y1 x2 y2 : K} (h1 : onK x1 y1) (h2 : onK x2 y2) : 1 + dK * x1 * x2 * y1 * y2 ≠ 0 := by
  intro h
  exact complete_sq x1 y1 x2 y2 _ h1 h2 rfl (by grind)
theorem complete_minus {x1 y1 x2 y2 : K} (h1 : onK x1 y1) (h2 : onK x2 y2) : 1 - dK * x1 * x2 * y1 * y2 ≠ 0 := by
  intro h
  exact complete_sq x1 y1 x2 y2 _ h1 h2 rfl (by grind)
/-- The sum's two numbers. -/
def addX (x1 y1 x2 y2 : K) : K := (x1 * y2 + y1 * x2) * kinv (1 + dK * x1 * x2 * y1 * y2)
def addY (x1 y1 x2 y2 : K) : K := (y1 * y2 + x1 * x2) * kinv (1 - dK * x1 * x2 * y1 * y2)
theorem addX_mul {x1 y1 x2 y2 : K} (h1 : onK x1 y1) (h2 : onK x2 y2) : addX x1 y1 x2 y2 * (1 + dK * x1 * x2 * y1 * y2) = x1 * y2 + y1 * x2 := (k_div (complete_plus h1 h2)).1 rfl
theorem addY_mul {x1 y1 x2 y2 : K} (h1 : onK x1 y1) (h2 : onK x2 y2) : addY x1 y1 x2 y2 * (1 - dK * x1 * x2 * y1 * y2) = y1 * y2 + x1 * x2 := (k_div (complete_minus h1 h2)).1 rfl
theorem addX_comm (x1 y1 x2 y2 : K) : addX x1 y1 x2 y2 = addX x2 y2 x1 y1 := by
  unfold addX
  rw [show x1 * y2 + y1 * x2 = x2 * y1 + y2 * x1 by grind, show dK * x1 * x2 * y1 * y2 = dK * x2 * x1 * y2 * y1 by grind]
theorem addY_comm (x1 y1 x2 y2 : K) : addY x1 y1 x2 y2 = addY x2 y2 x1 y1 := by
  unfold addY
  rw [show y1 * y2 + x1 * x2 = y2 * y1 + x2 * x1 by grind, show dK * x1 * x2 * y1 * y2 = dK * x2 * x1 * y2 * y1 by grind]
theorem on_zero {x y : K} (h : onK x y) : y * y - x * x - 1 - dK * x * x * y * y = 0 := by
  unfold onK at h
  grind
theorem on_of_zero {x y : K} (h : y * y - x * x - (1 + dK * x * x * y * y) = 0) : onK x y := by
  unfold onK
  grind
theorem close_alg (d A B e : K) : (B * (1 - e)) * (B * (1 - e)) * ((1 + e) * (1 + e)) - (A * (1 + e)) * (A * (1 + e)) * ((1 - e) * (1 - e)) - (1 - e * e) * (1 - e * e) - d * ((A * (1 + e)) * (A * (1 + e))) * ((B * (1 - e)) * (B * (1 - e))) =
    (B * B - A * A - (1 + d * A * A * B * B)) * ((1 + e) * (1 - e) * ((1 + e) * (1 - e))) := by grind
theorem times_zero2 (a b : K) : a * 0 + b * 0 = 0 := by rw [Fin.mul_zero, Fin.mul_zero, Fin.add_zero]
theorem times_zero3 (a b c : K) : a * 0 + b * 0 + c * 0 = 0 := by rw [Fin.mul_zero, Fin.mul_zero, Fin.mul_zero, Fin.add_zero, Fin.add_zero]
theorem add_on {x1 y1 x2 y2 : K} (h1 : onK x1 y1) (h2 : onK x2 y2) : onK (addX x1 y1 x2 y2) (addY x1 y1 x2 y2) := by
  have hne := k_mul_ne (k_mul_ne (complete_plus h1 h2) (complete_minus h1 h2)) (k_mul_ne (complete_plus h1 h2) (complete_minus h1 h2))
  have hid := close_id dK x1 y1 x2 y2
  rw [on_zero h1, on_zero h2, times_zero2, ← addX_mul h1 h2, ← addY_mul h1 h2, close_alg] at hid
  exact on_of_zero ((k_mul_zero hid).resolve_right hne)
theorem assocX_alg (d A B C D x1 y1 x3 y3 e f : K) : ((A * (1 + e)) * (1 - e) * y3 + (B * (1 - e)) * (1 + e) * x3) * ((1 - f * f) + d * x1 * y1 * (C * (1 + f)) * (D * (1 - f))) - (x1 * (D * (1 - f)) * (1 + f) + y1 * (C * (1 + f)) * (1 - f)) * ((1 - e * e) + d * (A * (1 + e)) * (B * (1 - e)) * x3 * y3) =
    ((A * y3 + B * x3) * (1 + d * x1 * C * y1 * D) - (x1 * D + y1 * C) * (1 + d * A * x3 * B * y3)) * ((1 + e) * (1 - e) * ((1 + f) * (1 - f))) := by grind
theorem assocY_alg (d A B C D x1 y1 x3 y3 e f : K) : ((B * (1 - e)) * (1 + e) * y3 + (A * (1 + e)) * (1 - e) * x3) * ((1 - f * f) - d * x1 * y1 * (C * (1 + f)) * (D * (1 - f))) - (y1 * (D * (1 - f)) * (1 + f) + x1 * (C * (1 + f)) * (1 - f)) * ((1 - e * e) - d * (A * (1 + e)) * (B * (1 - e)) * x3 * y3) =
    ((B * y3 + A * x3) * (1 - d * x1 * C * y1 * D) - (y1 * D + x1 * C) * (1 - d * A * x3 * B * y3)) * ((1 + e) * (1 - e) * ((1 + f) * (1 - f))) := by grind
theorem cross {L R u v m n : K} (hL : L * u = m) (hR : R * v = n) (h : m * v - n * u = 0) (hu : u ≠ 0) (hv : v ≠ 0) : L = R := by
  apply k_cancel (k_mul_ne hu hv)
  have h1 : L * (u * v) = (L * u) * v := by grind
  have h2 : R * (u * v) = (R * v) * u := by grind
  rw [h1, h2, hL, hR]
  grind
theorem assoc_x {x1 y1 x2 y2 x3 y3 : K} (h1 : onK x1 y1) (h2 : onK x2 y2) (h3 : onK x3 y3) :
    addX (addX x1 y1 x2 y2) (addY x1 y1 x2 y2) x3 y3 = addX x1 y1 (addX x2 y2 x3 y3) (addY x2 y2 x3 y3) := by
  have hne := k_mul_ne (k_mul_ne (complete_plus h1 h2) (complete_minus h1 h2)) (k_mul_ne (complete_plus h2 h3) (complete_minus h2 h3))
  have o12 := add_on h1 h2
  have o23 := add_on h2 h3
  have hid := assocX_id dK x1 y1 x2 y2 x3 y3
  rw [on_zero h1, on_zero h2, on_zero h3, times_zero3, ← addX_mul h1 h2, ← addY_mul h1 h2, ← addX_mul h2 h3, ← addY_mul h2 h3, assocX_alg] at hid
  exact cross (addX_mul o12 h3) (addX_mul h1 o23) ((k_mul_zero hid).resolve_right hne) (complete_plus o12 h3) (complete_plus h1 o23)
theorem assoc_y {x1 y1 x2 y2 x3 y3 : K} (h1 : onK x1 y1) (h2 : onK x2 y2) (h3 : onK x3 y3) :
    addY (addX x1 y1 x2 y2) (addY x1 y1 x2 y2) x3 y3 = addY x1 y1 (addX x2 y2 x3 y3) (addY x2 y2 x3 y3) := by
  have hne := k_mul_ne (k_mul_ne (complete_plus h1 h2) (complete_minus h1 h2)) (k_mul_ne (complete_plus h2 h3) (complete_minus h2 h3))
  have o12 := add_on h1 h2
  have o23 := add_on h2 h3
  have hid := assocY_id dK x1 y1 x2 y2 x3 y3
  rw [on_zero h1, on_zero h2, on_zero h3, times_zero3, ← addX_mul h1 h2, ← addY_mul h1 h2, ← addX_mul h2 h3, ← addY_mul h2 h3, assocY_alg] at hid
  exact cross (addY_mul o12 h3) (addY_mul h1 o23) ((k_mul_zero hid).resolve_right hne) (complete_minus o12 h3) (complete_minus h1 o23)
theorem on_none : onK 0 1 := by unfold onK; grind
theorem add_none_x (x y : K) : addX x y 0 1 = x := by
  unfold addX
  have h1 : dK * x * 0 * y * 1 = 0 := by rw [Fin.mul_zero, Fin.zero_mul, Fin.zero_mul]
  rw [h1, Fin.add_zero, Fin.mul_zero, Fin.mul_one, Fin.add_zero]
  have h := k_mul_inv k_one_ne
  grind
theorem add_none_y (x y : K) : addY x y 0 1 = y := by
  unfold addY
  have h1 : dK * x * 0 * y * 1 = 0 := by rw [Fin.mul_zero, Fin.zero_mul, Fin.zero_mul]
  rw [h1, show (1 : K) - 0 = 1 by decide, Fin.mul_zero, Fin.mul_one, Fin.add_zero]
  have h := k_mul_inv k_one_ne
  grind
theorem on_turn {x y : K} (h : onK x y) : onK (-x) y := by
  unfold onK at *
  grind
theorem add_turn_x (x y : K) : addX x y (-x) y = 0 := by
  unfold addX
  rw [show x * y + y * -x = 0 by grind]
  grind
theorem add_turn_y {x y : K} (h : onK x y) : addY x y (-x) y = 1 := by
  have h2 := addY_mul h (on_turn h)
  apply k_cancel (complete_minus h (on_turn h))
  rw [h2]
  unfold onK at h
  grind
/-- The product: a point n times. -/
def mulK : Nat → K → K → K × K
  | 0, _, _ => (0, 1)
  | n + 1, x, y => (addX (mulK n x y).1 (mulK n x y).2 x y, addY (mulK n x y).1 (mulK n x y).2 x y)
theorem mul_on {x y : K} (h : onK x y) : ∀ n, onK (mulK n x y).1 (mulK n x y).2
  | 0 => on_none
  | n + 1 => add_on (mul_on h n) h
theorem mul_add {x y : K} (h : onK x y) (m : Nat) : ∀ n, mulK (m + n) x y = (addX (mulK m x y).1 (mulK m x y).2 (mulK n x y).1 (mulK n x y).2, addY (mulK m x y).1 (mulK m x y).2 (mulK n x y).1 (mulK n x y).2)
  | 0 => by
    show mulK m x y = (addX (mulK m x y).1 (mulK m x y).2 0 1, addY (mulK m x y).1 (mulK m x y).2 0 1)
    rw [add_none_x, add_none_y]
  | n + 1 => by
    show (addX (mulK (m + n) x y).1 (mulK (m + n) x y).2 x y, addY (mulK (m + n) x y).1 (mulK (m + n) x y).2 x y) = (addX _ _ (addX (mulK n x y).1 (mulK n x y).2 x y) (addY (mulK n x y).1 (mulK n x y).2 x y), addY _ _ (addX (mulK n x y).1 (mulK n x y).2 x y) (addY (mulK n x y).1 (mulK n x y).2 x y))
    rw [mul_add h m n]
    show (addX (addX _ _ _ _) (addY _ _ _ _) x y, addY (addX _ _ _ _) (addY _ _ _ _) x y) = _
    rw [assoc_x (mul_on h m) (mul_on h n) h, assoc_y (mul_on h m) (mul_on h n) h]
theorem mul_one (x y : K) : mulK 1 x y = (x, y) := by
  show (addX 0 1 x y, addY 0 1 x y) = (x, y)
  rw [addX_comm, addY_comm, add_none_x, add_none_y]
theorem mul_double {x y : K} (h : onK x y) (n : Nat) : mulK (2 * n) x y = (addX (mulK n x y).1 (mulK n x y).2 (mulK n x y).1 (mulK n x y).2, addY (mulK n x y).1 (mulK n x y).2 (mulK n x y).1 (mulK n x y).2) := by
  rw [Nat.two_mul, mul_add h]
end Go.Proofs.YtgbliacncahooaaDoor
/- Points with a denominator, as the document adds them; points as plain numbers; products by rows of bits. No condition but what each names. -/
namespace Go.Proofs.YtgbliacncahooaaDoor
set_option linter.unusedVariables false
/-- Three numbers stand for a point: its two numbers times a third one that is not nought. -/
def Rep (X Y Z x y : K) : Prop := Z ≠ 0 ∧ X = x * Z ∧ Y = y * Z
theorem rep_one (x y : K) : Rep x y 1 x y := ⟨k_one_ne, (Fin.mul_one x).symm, (Fin.mul_one y).symm⟩
theorem rep_flat {X Y Z x y : K} (h : Rep X Y Z x y) : X * kinv Z = x ∧ Y * kinv Z = y := by
  obtain ⟨h0, rfl, rfl⟩ := h
  have h1 := k_mul_inv h0
  have h2 : x * Z * kinv Z = x * (Z * kinv Z) := by grind
  have h3 : y * Z * kinv Z = y * (Z * kinv Z) := by grind
  rw [h2, h3, h1, Fin.mul_one, Fin.mul_one]
  exact ⟨rfl, rfl⟩
/-- The sum's three numbers, as the document finds them. -/
def plX (X1 Y1 Z1 X2 Y2 Z2 : K) : K := Z1 * Z2 * (Z1 * Z2 * (Z1 * Z2) - dK * (X1 * X2 * (Y1 * Y2))) * ((X1 + Y1) * (X2 + Y2) - X1 * X2 - Y1 * Y2)
def plY (X1 Y1 Z1 X2 Y2 Z2 : K) : K := Z1 * Z2 * (Z1 * Z2 * (Z1 * Z2) + dK * (X1 * X2 * (Y1 * Y2))) * (X1 * X2 + Y1 * Y2)
def plZ (X1 Y1 Z1 X2 Y2 Z2 : K) : K := (Z1 * Z2 * (Z1 * Z2) - dK * (X1 * X2 * (Y1 * Y2))) * (Z1 * Z2 * (Z1 * Z2) + dK * (X1 * X2 * (Y1 * Y2)))
theorem pl_alg1 (d x1 y1 z1 x2 y2 z2 : K) : z1 * z2 * (z1 * z2) - d * (x1 * z1 * (x2 * z2) * (y1 * z1 * (y2 * z2))) = (z1 * z2) * (z1 * z2) * (1 - d * x1 * x2 * y1 * y2) := by grind
theorem pl_alg2 (d x1 y1 z1 x2 y2 z2 : K) : z1 * z2 * (z1 * z2) + d * (x1 * z1 * (x2 * z2) * (y1 * z1 * (y2 * z2))) = (z1 * z2) * (z1 * z2) * (1 + d * x1 * x2 * y1 * y2) := by grind
theorem pl_alg3 (a b w m p : K) : w * (w * w * m) * (a * w) = b * p * 0 + a * (w * w * (w * w * m)) := by grind
theorem rep_plus {X1 Y1 Z1 X2 Y2 Z2 x1 y1 x2 y2 : K} (h1 : Rep X1 Y1 Z1 x1 y1) (h2 : Rep X2 Y2 Z2 x2 y2) (o1 : onK x1 y1) (o2 : onK x2 y2) :
    Rep (plX X1 Y1 Z1 X2 Y2 Z2) (plY X1 Y1 Z1 X2 Y2 Z2) (plZ X1 Y1 Z1 X2 Y2 Z2) (addX x1 y1 x2 y2) (addY x1 y1 x2 y2) := by
  obtain ⟨z1, rfl, rfl⟩ := h1
  obtain ⟨z2, rfl, rfl⟩ := h2
  have hp := complete_plus o1 o2
  have hm := complete_minus o1 o2
  have hX := addX_mul o1 o2
  have hY := addY_mul o1 o2
  have hz := k_mul_ne z1 z2
  unfold plX plY plZ
  rw [pl_alg1, pl_alg2]
  have e1 : (x1 * Z1 + y1 * Z1) * (x2 * Z2 + y2 * Z2) - x1 * Z1 * (x2 * Z2) - y1 * Z1 * (y2 * Z2) = (x1 * y2 + y1 * x2) * (Z1 * Z2) := by grind
  have e2 : x1 * Z1 * (x2 * Z2) + y1 * Z1 * (y2 * Z2) = (y1 * y2 + x1 * x2) * (Z1 * Z2) := by grind
  rw [e1, e2, ← hX, ← hY]
  generalize addX x1 y1 x2 y2 = A at *
  generalize addY x1 y1 x2 y2 = B at *
  generalize dK * x1 * x2 * y1 * y2 = e at *
  generalize Z1 * Z2 = v at *
  clear hX hY e1 e2 o1 o2 z1 z2
  refine ⟨k_mul_ne (k_mul_ne (k_mul_ne hz hz) hm) (k_mul_ne (k_mul_ne hz hz) hp), ?_, ?_⟩
  · clear hp hm hz
    grind
  · clear hp hm hz
    grind
/-- So with plain numbers, d being any. -/
def plusD (d : Nat) (p q : Nat × Nat × Nat) : Nat × Nat × Nat :=
  let a := mulF p.2.2 q.2.2
  let b := mulF a a
  let c := mulF p.1 q.1
  let e := mulF p.2.1 q.2.1
  let f := mulF d (mulF c e)
  let g := subF b f
  let h := addF b f
  (mulF (mulF a g) (subF (subF (mulF (addF p.1 p.2.1) (addF q.1 q.2.1)) c) e), mulF (mulF a h) (addF c e), mulF g h)
def plusN (p q : Nat × Nat × Nat) : Nat × Nat × Nat := plusD dN p q
def RepN (p : Nat × Nat × Nat) (x y : K) : Prop := Rep (toK p.1) (toK p.2.1) (toK p.2.2) x y
theorem toK_subM (a c d : Nat) : toK (subF a (mulF c d)) = toK a - toK c * toK d := by rw [toK_sub _ _ (pp_lt (mulF_lt _ _)), toK_mul]
theorem repN_plus {p q : Nat × Nat × Nat} {x1 y1 x2 y2 : K} (h1 : RepN p x1 y1) (h2 : RepN q x2 y2) (o1 : onK x1 y1) (o2 : onK x2 y2) : RepN (plusN p q) (addX x1 y1 x2 y2) (addY x1 y1 x2 y2) := by
  have h := rep_plus h1 h2 o1 o2
  unfold plX plY plZ at h
  rw [show dK = toK dN from rfl] at h
  unfold RepN plusN plusD
  simp only [toK_mul, toK_add, toK_sub _ _ (pp_lt (mulF_lt _ _))]
  exact h
theorem repN_one (x y : Nat) : RepN (x, y, 1) (toK x) (toK y) := by
  show Rep (toK x) (toK y) (toK 1) (toK x) (toK y)
  rw [toK_one]
  exact rep_one _ _
/-- A point as plain numbers. -/
def flatN (p : Nat × Nat × Nat) : Nat × Nat := (mulF p.1 (invF p.2.2), mulF p.2.1 (invF p.2.2))
theorem flatN_of {p : Nat × Nat × Nat} {x y : K} (h : RepN p x y) : flatN p = (x.val, y.val) := by
  have h1 := rep_flat h
  unfold flatN
  have e1 : toK (mulF p.1 (invF p.2.2)) = x := by rw [toK_mul, toK_inv]; exact h1.1
  have e2 : toK (mulF p.2.1 (invF p.2.2)) = y := by rw [toK_mul, toK_inv]; exact h1.2
  have f1 := congrArg Fin.val e1
  have f2 := congrArg Fin.val e2
  rw [toK_val, Nat.mod_eq_of_lt (mulF_lt _ _)] at f1 f2
  rw [f1, f2]
/-- Whether two numbers are a point. -/
def onN (p : Nat × Nat) : Prop := p.1 < pp ∧ p.2 < pp ∧ onK (toK p.1) (toK p.2)
def addN (p q : Nat × Nat) : Nat × Nat := ((addX (toK p.1) (toK p.2) (toK q.1) (toK q.2)).val, (addY (toK p.1) (toK p.2) (toK q.1) (toK q.2)).val)
def mulN (n : Nat) (p : Nat × Nat) : Nat × Nat := ((mulK n (toK p.1) (toK p.2)).1.val, (mulK n (toK p.1) (toK p.2)).2.val)
theorem addN_x (p q : Nat × Nat) : toK (addN p q).1 = addX (toK p.1) (toK p.2) (toK q.1) (toK q.2) := toK_of _
theorem addN_y (p q : Nat × Nat) : toK (addN p q).2 = addY (toK p.1) (toK p.2) (toK q.1) (toK q.2) := toK_of _
theorem mulN_x (n : Nat) (p : Nat × Nat) : toK (mulN n p).1 = (mulK n (toK p.1) (toK p.2)).1 := toK_of _
theorem mulN_y (n : Nat) (p : Nat × Nat) : toK (mulN n p).2 = (mulK n (toK p.1) (toK p.2)).2 := toK_of _
theorem addN_lt (p q : Nat × Nat) : (addN p q).1 < pp ∧ (addN p q).2 < pp := ⟨(addX (toK p.1) (toK p.2) (toK q.1) (toK q.2)).isLt, (addY (toK p.1) (toK p.2) (toK q.1) (toK q.2)).isLt⟩
theorem mulN_lt (n : Nat) (p : Nat × Nat) : (mulN n p).1 < pp ∧ (mulN n p).2 < pp := ⟨(mulK n (toK p.1) (toK p.2)).1.isLt, (mulK n (toK p.1) (toK p.2)).2.isLt⟩
/-- Two pairs of numbers are one, if they are in the ring. -/
theorem pair_ext {p q : Nat × Nat} (hp : p.1 < pp ∧ p.2 < pp) (hq : q.1 < pp ∧ q.2 < pp) (h1 : toK p.1 = toK q.1) (h2 : toK p.2 = toK q.2) : p = q :=
  Prod.ext (toK_inj hp.1 hq.1 h1) (toK_inj hp.2 hq.2 h2)
theorem onN_lt {p : Nat × Nat} (hp : onN p) : p.1 < pp ∧ p.2 < pp := ⟨hp.1, hp.2.1⟩
theorem onN_of {p : Nat × Nat} (hp : p.1 < pp ∧ p.2 < pp) (h : onK (toK p.1) (toK p.2)) : onN p := ⟨hp.1, hp.2, h⟩
theorem addN_on {p q : Nat × Nat} (hp : onN p) (hq : onN q) : onN (addN p q) := by
  refine onN_of (addN_lt p q) ?_
  rw [addN_x, addN_y]
  exact add_on hp.2.2 hq.2.2
theorem mulN_on {p : Nat × Nat} (hp : onN p) (n : Nat) : onN (mulN n p) := by
  refine onN_of (mulN_lt n p) ?_
  rw [mulN_x, mulN_y]
  exact mul_on hp.2.2 n
theorem addN_comm (p q : Nat × Nat) : addN p q = addN q p := by
  refine pair_ext (addN_lt _ _) (addN_lt _ _) ?_ ?_
  · rw [addN_x, addN_x, addX_comm]
  · rw [addN_y, addN_y, addY_comm]
theorem addN_assoc {p q r : Nat × Nat} (hp : onN p) (hq : onN q) (hr : onN r) : addN (addN p q) r = addN p (addN q r) := by
  refine pair_ext (addN_lt _ _) (addN_lt _ _) ?_ ?_
  · rw [addN_x, addN_x, addN_x, addN_y, addN_x, addN_y]
    exact assoc_x hp.2.2 hq.2.2 hr.2.2
  · rw [addN_y, addN_y, addN_x, addN_y, addN_x, addN_y]
    exact assoc_y hp.2.2 hq.2.2 hr.2.2
theorem val_toK {a : Nat} (h : a < pp) : (toK a).val = a := by rw [toK_val, Nat.mod_eq_of_lt h]
theorem noneN_on : onN (0, 1) := by
  refine onN_of ⟨pp_pos, by decide⟩ ?_
  show onK (toK 0) (toK 1)
  rw [toK_zero, toK_one]
  exact on_none
theorem addN_none {p : Nat × Nat} (hp : onN p) : addN p (0, 1) = p := by
  refine pair_ext (addN_lt _ _) (onN_lt hp) ?_ ?_
  · rw [addN_x]
    show addX _ _ (toK 0) (toK 1) = _
    rw [toK_zero, toK_one, add_none_x]
  · rw [addN_y]
    show addY _ _ (toK 0) (toK 1) = _
    rw [toK_zero, toK_one, add_none_y]
/-- Turned about. -/
def turnN (p : Nat × Nat) : Nat × Nat := (subF 0 p.1, p.2)
theorem toK_turn (a : Nat) (h : a < 115792089237316195423570985008687907853269984665640564039457584007913129639936) : toK (subF 0 a) = -toK a := by
  rw [toK_sub _ _ h, toK_zero]
  generalize toK a = x
  grind
theorem turnN_on {p : Nat × Nat} (hp : onN p) : onN (turnN p) := by
  refine onN_of ⟨subF_lt _ _, hp.2.1⟩ ?_
  show onK (toK (subF 0 p.1)) (toK p.2)
  rw [toK_turn _ (pp_lt hp.1)]
  exact on_turn hp.2.2
theorem addN_turn {p : Nat × Nat} (hp : onN p) : addN p (turnN p) = (0, 1) := by
  refine pair_ext (addN_lt _ _) (onN_lt noneN_on) ?_ ?_
  · rw [addN_x]
    show addX _ _ (toK (subF 0 p.1)) (toK p.2) = toK 0
    rw [toK_turn _ (pp_lt hp.1), add_turn_x, toK_zero]
  · rw [addN_y]
    show addY _ _ (toK (subF 0 p.1)) (toK p.2) = toK 1
    rw [toK_turn _ (pp_lt hp.1), add_turn_y hp.2.2, toK_one]
theorem addN_back {p q : Nat × Nat} (hp : onN p) (hq : onN q) : addN (addN p q) (turnN q) = p := by
  rw [addN_assoc hp hq (turnN_on hq), addN_turn hq, addN_none hp]
theorem mulN_zero (p : Nat × Nat) : mulN 0 p = (0, 1) := by
  refine pair_ext (mulN_lt _ _) (onN_lt noneN_on) ?_ ?_
  · rw [mulN_x]
    show (0 : K) = toK 0
    exact toK_zero.symm
  · rw [mulN_y]
    show (1 : K) = toK 1
    exact toK_one.symm
theorem mulN_add {p : Nat × Nat} (hp : onN p) (m n : Nat) : mulN (m + n) p = addN (mulN m p) (mulN n p) := by
  refine pair_ext (mulN_lt _ _) (addN_lt _ _) ?_ ?_
  · rw [mulN_x, addN_x, mulN_x, mulN_y, mulN_x, mulN_y, mul_add hp.2.2]
  · rw [mulN_y, addN_y, mulN_x, mulN_y, mulN_x, mulN_y, mul_add hp.2.2]
theorem mulN_one {p : Nat × Nat} (hp : onN p) : mulN 1 p = p := by
  refine pair_ext (mulN_lt _ _) (onN_lt hp) ?_ ?_
  · rw [mulN_x, mul_one]
  · rw [mulN_y, mul_one]
theorem mulN_succ {p : Nat × Nat} (hp : onN p) (n : Nat) : mulN (n + 1) p = addN (mulN n p) p := by rw [mulN_add hp, mulN_one hp]
theorem mulN_double {p : Nat × Nat} (hp : onN p) (n : Nat) : mulN (2 * n) p = addN (mulN n p) (mulN n p) := by rw [Nat.two_mul, mulN_add hp]
/-- The document's sums of points with a denominator stand for the sums. -/
theorem repN_add {t u : Nat × Nat × Nat} {p q : Nat × Nat} (h1 : RepN t (toK p.1) (toK p.2)) (h2 : RepN u (toK q.1) (toK q.2)) (o1 : onN p) (o2 : onN q) : RepN (plusN t u) (toK (addN p q).1) (toK (addN p q).2) := by
  rw [addN_x, addN_y]
  exact repN_plus h1 h2 o1.2.2 o2.2.2
theorem flatN_rep {t : Nat × Nat × Nat} {p : Nat × Nat} (hp : p.1 < pp ∧ p.2 < pp) (h : RepN t (toK p.1) (toK p.2)) : flatN t = p := by
  rw [flatN_of h, val_toK hp.1, val_toK hp.2]
end Go.Proofs.YtgbliacncahooaaDoor
/- The first point of the curve, points of two and four turns, products by rows of bits, the order's product. No condition but what each names. -/
namespace Go.Proofs.YtgbliacncahooaaDoor
set_option linter.unusedVariables false
/-- The document's test of a point. -/
def onT (p : Nat × Nat) : Bool := decide (p.1 < pp) && (decide (p.2 < pp) && decide (subF (mulF p.2 p.2) (mulF p.1 p.1) = addF 1 (mulF dN (mulF (mulF p.1 p.1) (mulF p.2 p.2)))))
theorem on_eq (x y : Nat) : subF (mulF y y) (mulF x x) = addF 1 (mulF dN (mulF (mulF x x) (mulF y y))) ↔ onK (toK x) (toK y) := by
  constructor
  · intro h
    have h2 := congrArg toK h
    rw [toK_subM, toK_mul, toK_add, toK_mul, toK_mul, toK_mul, toK_mul, toK_one] at h2
    unfold onK
    rw [h2]
    show 1 + dK * (toK x * toK x * (toK y * toK y)) = _
    generalize toK x = a
    generalize toK y = b
    grind
  · intro h
    apply toK_inj (subF_lt _ _) (addF_lt _ _)
    rw [toK_subM, toK_mul, toK_add, toK_mul, toK_mul, toK_mul, toK_mul, toK_one]
    unfold onK at h
    rw [h]
    show _ = 1 + dK * (toK x * toK x * (toK y * toK y))
    generalize toK x = a
    generalize toK y = b
    grind
theorem onT_iff (p : Nat × Nat) : onT p = true ↔ onN p := by
  unfold onT onN
  rw [Bool.and_eq_true, Bool.and_eq_true, decide_eq_true_iff, decide_eq_true_iff, decide_eq_true_iff, on_eq]
/-- The first point. -/
def baseN : Nat × Nat := (15112221349535400772501151409588531511454012693041857206046113283949847762202, 46316835694926478169428394003475163141307993866256225615783033603165251855960)
theorem baseN_on : onN baseN := by
  rw [← onT_iff]
  unfold onT
  rw [dN_val]
  decide +kernel
/-- The points of two turns and of four. -/
def twoN : Nat × Nat := (0, pp - 1)
theorem twoN_on : onN twoN := by
  rw [← onT_iff]
  unfold onT
  rw [dN_val]
  decide +kernel
theorem root_less_on (x : Nat) (hx : x < pp) (h : mulF x x = pp - 1) : onN (x, 0) := by
  refine onN_of ⟨hx, pp_pos⟩ ?_
  refine (on_eq x 0).1 ?_
  show subF (mulF 0 0) (mulF x x) = addF 1 (mulF dN (mulF (mulF x x) (mulF 0 0)))
  rw [h, dN_val]
  decide +kernel
def fourN : Nat × Nat := ((rootF (pp - 1)).1, 0)
theorem fourN_on : onN fourN := by
  refine root_less_on _ (rootF_lt _) ?_
  rw [rootF_sq _ rootF_less]
  decide
theorem two_two : addN twoN twoN = (0, 1) := by
  have h : turnN twoN = twoN := by unfold turnN twoN; rw [show subF 0 0 = 0 by decide]
  have h2 := addN_turn twoN_on
  rw [h] at h2
  exact h2
/-- The number that bits say, the highest first. -/
def hvB (l : List Bool) : Nat := l.foldl (fun n b => 2 * n + b.toNat) 0
theorem hvB_snoc (l : List Bool) (b : Bool) : hvB (l ++ [b]) = 2 * hvB l + b.toNat := by simp [hvB]
/-- A product by a row of bits, as the document finds it. -/
def fastN (p : Nat × Nat) (l : List Bool) : Nat × Nat × Nat := l.foldl (fun t b => if b then plusN (plusN t t) (p.1, p.2, 1) else plusN t t) (0, 1, 1)
theorem fastN_snoc (p : Nat × Nat) (l : List Bool) (b : Bool) : fastN p (l ++ [b]) = if b then plusN (plusN (fastN p l) (fastN p l)) (p.1, p.2, 1) else plusN (fastN p l) (fastN p l) := by simp [fastN]
theorem fastN_rep {p : Nat × Nat} (hp : onN p) (l : List Bool) : RepN (fastN p l) (toK (mulN (hvB l) p).1) (toK (mulN (hvB l) p).2) := by
  have key : ∀ (m : List Bool) (t : Nat × Nat × Nat) (n : Nat), RepN t (toK (mulN n p).1) (toK (mulN n p).2) →
      RepN (m.foldl (fun t b => if b then plusN (plusN t t) (p.1, p.2, 1) else plusN t t) t) (toK (mulN (m.foldl (fun n b => 2 * n + b.toNat) n) p).1) (toK (mulN (m.foldl (fun n b => 2 * n + b.toNat) n) p).2) := by
    intro m
    induction m with
    | nil => exact fun t n h => h
    | cons b m ih =>
      intro t n h
      rw [List.foldl_cons, List.foldl_cons]
      apply ih
      have h2 := repN_add h h (mulN_on hp n) (mulN_on hp n)
      rw [← mulN_double hp] at h2
      cases b with
      | false => exact h2
      | true =>
        have h3 := repN_add h2 (repN_one p.1 p.2) (mulN_on hp (2 * n)) hp
        rw [← mulN_succ hp] at h3
        exact h3
  refine key l (0, 1, 1) 0 ?_
  rw [mulN_zero]
  exact repN_one 0 1
theorem plusD_eq (p q : Nat × Nat × Nat) : plusD 37095705934669439343138083508754565189542113879843219016388785533085940283555 p q = plusN p q := by
  unfold plusN
  rw [dN_val]
def fastD (d : Nat) (p : Nat × Nat) (l : List Bool) : Nat × Nat × Nat := l.foldl (fun t b => if b then plusD d (plusD d t t) (p.1, p.2, 1) else plusD d t t) (0, 1, 1)
theorem fastD_eq (p : Nat × Nat) (l : List Bool) : fastD 37095705934669439343138083508754565189542113879843219016388785533085940283555 p l = fastN p l := by
  unfold fastD fastN
  simp only [plusD_eq]
/-- The bits of a number, n of them. -/
def bitsN (v : Nat) : Nat → List Bool
  | 0 => []
  | n + 1 => bitsN (v / 2) n ++ [decide (v % 2 = 1)]
theorem hvB_bits : ∀ n v, v < 2 ^ n → hvB (bitsN v n) = v
  | 0, v, h => by
    have : v = 0 := by simpa using h
    subst this
    rfl
  | n + 1, v, h => by
    rw [bitsN, hvB_snoc, hvB_bits n (v / 2) (by rw [Nat.pow_succ] at h; omega)]
    rcases Nat.mod_two_eq_zero_or_one v with e | e
    · rw [e]; show 2 * (v / 2) + 0 = v; omega
    · rw [e]; show 2 * (v / 2) + 1 = v; omega
/-- A point whose three numbers are nought and twice the same is nothing. -/
theorem rep_none {t : Nat × Nat × Nat} {p : Nat × Nat} (hp : p.1 < pp ∧ p.2 < pp) (h : RepN t (toK p.1) (toK p.2)) (h1 : t.1 = 0) (h2 : t.2.1 = t.2.2) : p = (0, 1) := by
  obtain ⟨hz, hx, hy⟩ := h
  refine pair_ext hp (onN_lt noneN_on) ?_ ?_
  · show toK p.1 = toK 0
    rw [h1] at hx
    rw [toK_zero] at hx ⊢
    exact (k_mul_zero hx.symm).resolve_right hz
  · show toK p.2 = toK 1
    rw [h2] at hy
    rw [toK_one]
    apply k_cancel hz
    rw [← hy, Fin.one_mul]
theorem rep_lit {t : Nat × Nat × Nat} {p q : Nat × Nat} (hp : p.1 < pp ∧ p.2 < pp) (hq : q.1 < pp ∧ q.2 < pp) (h : RepN t (toK p.1) (toK p.2)) (h1 : mulF q.1 t.2.2 = t.1 % pp) (h2 : mulF q.2 t.2.2 = t.2.1 % pp) : p = q := by
  obtain ⟨hz, hx, hy⟩ := h
  refine pair_ext hp hq ?_ ?_
  · have e := congrArg toK h1
    rw [toK_mul, toK_mod, hx] at e
    exact (k_cancel hz e).symm
  · have e := congrArg toK h2
    rw [toK_mul, toK_mod, hy] at e
    exact (k_cancel hz e).symm
theorem order_base : mulN 7237005577332262213973186563042994240857116359379907606001950938285454250989 baseN = (0, 1) := by
  have h := fastN_rep baseN_on (bitsN 7237005577332262213973186563042994240857116359379907606001950938285454250989 253)
  rw [hvB_bits 253 _ (by decide), ← fastD_eq] at h
  refine rep_none (mulN_lt _ _) h ?_ ?_
  · decide +kernel
  · decide +kernel
def base2 : Nat × Nat := (24727413235106541002554574571675588834622768167397638456726423682521233608206, 15549675580280190176352668710449542251549572066445060580507079593062643049417)
def base3 : Nat × Nat := (46896733464454938657123544595386787789046198280132665686241321779790909858396, 8324843778533443976490377120369201138301417226297555316741202210403726505172)
theorem two_base : mulN 2 baseN = base2 := by
  have h := fastN_rep baseN_on (bitsN 2 2)
  rw [hvB_bits 2 2 (by decide), ← fastD_eq] at h
  exact rep_lit (mulN_lt _ _) (by decide) h (by decide +kernel) (by decide +kernel)
theorem three_base : mulN 3 baseN = base3 := by
  have h := fastN_rep baseN_on (bitsN 3 2)
  rw [hvB_bits 2 3 (by decide), ← fastD_eq] at h
  exact rep_lit (mulN_lt _ _) (by decide) h (by decide +kernel) (by decide +kernel)
end Go.Proofs.YtgbliacncahooaaDoor
/- Points as numbers of 256 bits, and back. No condition but what each names. -/
namespace Go.Proofs.YtgbliacncahooaaDoor
set_option linter.unusedVariables false
/-- 2^255. -/
def hb : Nat := 57896044618658097711785492504343953926634992332820282019728792003956564819968
theorem pp_hb : pp < hb := by decide
/-- The square of the X that goes with a Y. -/
def fromU (y : Nat) : Nat := mulF (subF (mulF y y) 1) (invF (addF (mulF dN (mulF y y)) 1))
theorem fromU_lt (y : Nat) : fromU y < pp := mulF_lt _ _
theorem den_ne (y : K) : dK * (y * y) + 1 ≠ 0 := by
  intro h
  have h1 : ki * ki = dK * (y * y) := by rw [ki_sq]; grind
  have h2 := not_sq_times h1
  rw [h2, Fin.mul_zero, Fin.mul_zero, Fin.zero_add] at h
  exact k_one_ne h
theorem toK_fromU (y : Nat) : toK (fromU y) = (toK y * toK y - 1) * kinv (dK * (toK y * toK y) + 1) := by
  unfold fromU
  rw [toK_mul, toK_sub _ _ (by decide), toK_inv, toK_add, toK_mul, toK_mul, toK_mul, toK_one, show toK dN = dK from rfl]
theorem on_fromU (x y : Nat) : onK (toK x) (toK y) ↔ mulF x x = fromU y := by
  have hd := den_ne (toK y)
  have e : onK (toK x) (toK y) ↔ toK x * toK x * (dK * (toK y * toK y) + 1) = toK y * toK y - 1 := by
    unfold onK
    generalize toK x = a
    generalize toK y = b
    clear hd
    constructor <;> intro h <;> grind
  rw [e, ← k_div hd, ← toK_fromU, ← toK_mul]
  constructor
  · intro h
    exact toK_inj (mulF_lt _ _) (fromU_lt _) h
  · intro h
    rw [h]
/-- A point's number: its Y, and whether its X is odd. -/
def encP (p : Nat × Nat) : Nat := p.2 + hb * (p.1 % 2)
/-- The point whose number it is, and whether there is one. -/
def decP (n : Nat) : (Nat × Nat) × Bool :=
  if n % hb < pp ∧ (rootF (fromU (n % hb))).2 = true ∧ ¬ (n / hb = 1 ∧ (rootF (fromU (n % hb))).1 = 0) then
    ((if n / hb = 1 then subF 0 (rootF (fromU (n % hb))).1 else (rootF (fromU (n % hb))).1, n % hb), true) else ((0, 0), false)
theorem hb_lit : hb = 57896044618658097711785492504343953926634992332820282019728792003956564819968 := rfl
theorem pp_lit : pp = 57896044618658097711785492504343953926634992332820282019728792003956564819949 := rfl
theorem encP_lt {p : Nat × Nat} (h : p.2 < pp) : encP p < 115792089237316195423570985008687907853269984665640564039457584007913129639936 := by
  have h1 := pp_lit
  have h2 := hb_lit
  unfold encP
  rcases Nat.mod_two_eq_zero_or_one p.1 with e | e <;> rw [e] <;> omega
theorem encP_mod {p : Nat × Nat} (h : p.2 < pp) : encP p % hb = p.2 := by
  have h1 := pp_hb
  unfold encP
  rw [Nat.add_mul_mod_self_left, Nat.mod_eq_of_lt (by omega)]
theorem encP_div {p : Nat × Nat} (h : p.2 < pp) : encP p / hb = p.1 % 2 := by
  have h1 := pp_hb
  unfold encP
  rw [Nat.add_mul_div_left _ _ (by decide), Nat.div_eq_of_lt (by omega), Nat.zero_add]
theorem neg_zero : subF 0 0 = 0 := by decide
theorem sub_neg (x : Nat) (hx : x < pp) : subF 0 (subF 0 x) = x := by
  by_cases h : x = 0
  · subst h; rw [neg_zero, neg_zero]
  · rw [neg_val x (by omega) hx, neg_val (pp - x) (by omega) (by omega)]
    omega
/-- The root of a square: that of the two that is even. -/
theorem root_of (x : Nat) (hx : x < pp) : (rootF (mulF x x)).1 = if x % 2 = 0 then x else subF 0 x := by
  have h1 := pp_lit
  have hev := rootF_even (mulF x x)
  have hor := rootF_square_is x
  rw [Nat.mod_eq_of_lt hx] at hor
  generalize (rootF (mulF x x)).1 = r at *
  by_cases h0 : x = 0
  · subst h0
    rw [neg_zero] at hor
    rw [if_pos rfl]
    omega
  · have hn := neg_val x (by omega) hx
    rw [hn] at hor
    rw [hn]
    clear hn
    by_cases e : x % 2 = 0
    · rw [if_pos e]
      rcases hor with h | h
      · exact h
      · omega
    · rw [if_neg e]
      rcases hor with h | h
      · omega
      · exact h
/-- The same, of the two parts of the number. -/
def decQ (y q : Nat) : (Nat × Nat) × Bool :=
  if y < pp ∧ (rootF (fromU y)).2 = true ∧ ¬ (q = 1 ∧ (rootF (fromU y)).1 = 0) then ((if q = 1 then subF 0 (rootF (fromU y)).1 else (rootF (fromU y)).1, y), true) else ((0, 0), false)
theorem decP_eq (n : Nat) : decP n = decQ (n % hb) (n / hb) := rfl
theorem decQ_enc {x y : Nat} (hx : x < pp) (hy : y < pp) (hu : mulF x x = fromU y) : decQ y (x % 2) = ((x, y), true) := by
  have h1 := pp_lit
  have hr := root_of x hx
  have hsq := rootF_square x
  unfold decQ
  rw [← hu, hsq, hr]
  clear hsq hr hu
  rcases Nat.mod_two_eq_zero_or_one x with e | e
  · rw [e, if_pos (rfl : 0 = 0)]
    rw [if_pos ⟨hy, rfl, fun h => absurd h.1 (by decide)⟩, if_neg (by decide)]
  · have hx0 : 0 < x := by omega
    have hn : subF 0 x ≠ 0 := by rw [neg_val _ hx0 hx]; omega
    rw [e, if_neg (by decide : ¬ (1 = 0))]
    rw [if_pos ⟨hy, rfl, fun h => hn h.2⟩, if_pos rfl, sub_neg _ hx]
theorem decP_enc {p : Nat × Nat} (hp : onN p) : decP (encP p) = (p, true) := by
  have hu := (on_fromU p.1 p.2).1 hp.2.2
  rw [decP_eq, encP_mod hp.2.1, encP_div hp.2.1]
  exact decQ_enc hp.1 hp.2.1 hu
/-- What stands in a point's place, of a root. -/
theorem decQ_core {y q r : Nat} (hq : q < 2) (hy : y < pp) (hlt : r < pp) (hev : r % 2 = 0) (hsq : mulF r r = fromU y) (hne : ¬ (q = 1 ∧ r = 0)) : onN (if q = 1 then subF 0 r else r, y) ∧ (if q = 1 then subF 0 r else r) % 2 = q := by
  by_cases e : q = 1
  · rw [if_pos e]
    have hr0 : 0 < r := Nat.pos_of_ne_zero (fun h0 => hne ⟨e, h0⟩)
    have hng := neg_val r hr0 hlt
    refine ⟨onN_of ⟨subF_lt _ _, hy⟩ ((on_fromU _ _).2 ?_), ?_⟩
    · show mulF (subF 0 r) (subF 0 r) = fromU y
      rw [subF_zero_sq r (pp_lt hlt), hsq]
    · rw [hng, e]
      clear hng hsq hne hy hq e
      have h1 := pp_lit
      omega
  · rw [if_neg e]
    exact ⟨onN_of ⟨hlt, hy⟩ ((on_fromU _ _).2 hsq), by omega⟩
theorem decQ_some {y q : Nat} {p : Nat × Nat} (hq : q < 2) (h : decQ y q = (p, true)) : onN p ∧ p.2 = y ∧ p.1 % 2 = q := by
  unfold decQ at h
  have hsq := rootF_sq (fromU y)
  rw [Nat.mod_eq_of_lt (fromU_lt _)] at hsq
  have hev := rootF_even (fromU y)
  have hlt := rootF_lt (fromU y)
  generalize (rootF (fromU y)).1 = r at *
  generalize (rootF (fromU y)).2 = b at *
  by_cases hc : y < pp ∧ b = true ∧ ¬ (q = 1 ∧ r = 0)
  · rw [if_pos hc] at h
    obtain ⟨hy, hr, hne⟩ := hc
    obtain ⟨h1, h2⟩ := decQ_core hq hy hlt hev (hsq hr) hne
    have h3 : (if q = 1 then subF 0 r else r, y) = p := congrArg Prod.fst h
    rw [← h3]
    exact ⟨h1, rfl, h2⟩
  · rw [if_neg hc] at h
    have h2 : false = true := congrArg Prod.snd h
    cases h2
theorem decP_some {n : Nat} {p : Nat × Nat} (hn : n < 115792089237316195423570985008687907853269984665640564039457584007913129639936) (h : decP n = (p, true)) : onN p ∧ encP p = n := by
  have hq : n / hb < 2 := Nat.div_lt_of_lt_mul (Nat.lt_of_lt_of_le hn (by decide))
  obtain ⟨h1, h2, h3⟩ := decQ_some hq h
  refine ⟨h1, ?_⟩
  unfold encP
  rw [h2, h3]
  exact Nat.mod_add_div n hb
theorem turn_parity {p : Nat × Nat} (hp : onN p) (h0 : p.1 ≠ 0) : (turnN p).1 % 2 = 1 - p.1 % 2 := by
  have h1 := pp_lit
  show subF 0 p.1 % 2 = _
  have := hp.1
  rw [neg_val _ (by omega) hp.1]
  omega
/-- With its highest bit turned a point's number says it turned about. -/
theorem decP_turn {p : Nat × Nat} (hp : onN p) : decP (p.2 + hb * (1 - p.1 % 2)) = if p.1 = 0 then ((0, 0), false) else (turnN p, true) := by
  by_cases h0 : p.1 = 0
  · rw [if_pos h0]
    have hu := (on_fromU p.1 p.2).1 hp.2.2
    rw [h0] at hu
    have hz : fromU p.2 = 0 := by rw [← hu]; rfl
    have e1 : (p.2 + hb * (1 - p.1 % 2)) % hb = p.2 := by
      rw [Nat.add_mul_mod_self_left, Nat.mod_eq_of_lt (Nat.lt_trans hp.2.1 pp_hb)]
    have e2 : (p.2 + hb * (1 - p.1 % 2)) / hb = 1 := by
      rw [Nat.add_mul_div_left _ _ (by decide), Nat.div_eq_of_lt (Nat.lt_trans hp.2.1 pp_hb), h0]
    rw [decP_eq, e1, e2]
    unfold decQ
    rw [hz, rootF_zero 0 (Nat.zero_mod _), if_neg (fun h => h.2.2 ⟨rfl, rfl⟩)]
  · rw [if_neg h0, ← turn_parity hp h0]
    exact decP_enc (turnN_on hp)
theorem base_y : mulF 4 (invF 5) = baseN.2 := by
  unfold invF
  rw [powF_pwm 5 (pp - 2) _ (by decide) rfl]
  decide +kernel
theorem decP_base : decP (mulF 4 (invF 5)) = (baseN, true) := by
  have h := decP_enc baseN_on
  have e : encP baseN = mulF 4 (invF 5) := by rw [base_y]; decide
  rw [e] at h
  exact h
end Go.Proofs.YtgbliacncahooaaDoor
/- More of products of a point: by products, by remainders of the order. No condition but what each names. -/
namespace Go.Proofs.YtgbliacncahooaaDoor
set_option linter.unusedVariables false
/-- The order, written out. -/
def ordN : Nat := 7237005577332262213973186563042994240857116359379907606001950938285454250989
theorem mulN_none : ∀ n, mulN n (0, 1) = (0, 1)
  | 0 => mulN_zero _
  | n + 1 => by rw [mulN_succ noneN_on, mulN_none n, addN_none noneN_on]
theorem mulN_mul {p : Nat × Nat} (hp : onN p) (m : Nat) : ∀ n, mulN (m * n) p = mulN n (mulN m p)
  | 0 => by rw [Nat.mul_zero, mulN_zero, mulN_zero]
  | n + 1 => by rw [Nat.mul_succ, mulN_add hp, mulN_mul hp m n, mulN_succ (mulN_on hp m)]
theorem mulN_order (n : Nat) : mulN (ordN * n) baseN = (0, 1) := by
  rw [mulN_mul baseN_on, show mulN ordN baseN = (0, 1) from order_base, mulN_none]
theorem addN_none_left {p : Nat × Nat} (hp : onN p) : addN (0, 1) p = p := by rw [addN_comm, addN_none hp]
theorem mulN_mod (n : Nat) : mulN (n % ordN) baseN = mulN n baseN := by
  have h := Nat.div_add_mod n ordN
  have h2 := mulN_add baseN_on (ordN * (n / ordN)) (n % ordN)
  rw [h, mulN_order, addN_none_left (mulN_on baseN_on _)] at h2
  exact h2.symm
/-- What is turned about, so often. -/
theorem addN_cancel {p q r : Nat × Nat} (hp : onN p) (hq : onN q) (hr : onN r) (h : addN p r = addN q r) : p = q := by
  have h2 : addN (addN p r) (turnN r) = addN (addN q r) (turnN r) := by rw [h]
  rw [addN_back hp hr, addN_back hq hr] at h2
  exact h2
theorem turnN_turn {p : Nat × Nat} (hp : onN p) : turnN (turnN p) = p := by
  unfold turnN
  show (subF 0 (subF 0 p.1), p.2) = p
  rw [sub_neg _ hp.1]
theorem turnN_add {p q : Nat × Nat} (hp : onN p) (hq : onN q) : turnN (addN p q) = addN (turnN p) (turnN q) := by
  have h1 := addN_on hp hq
  have tp := turnN_on hp
  have tq := turnN_on hq
  apply addN_cancel (turnN_on h1) (addN_on tp tq) h1
  rw [addN_comm (turnN (addN p q)), addN_turn h1, addN_assoc tp tq h1, addN_comm p q, ← addN_assoc tq hq hp, addN_comm (turnN q) q, addN_turn hq, addN_none_left hp, addN_comm, addN_turn hp]
theorem mulN_turn {p : Nat × Nat} (hp : onN p) : ∀ n, mulN n (turnN p) = turnN (mulN n p)
  | 0 => by
    rw [mulN_zero, mulN_zero]
    show (0, 1) = (subF 0 0, 1)
    rw [neg_zero]
  | n + 1 => by rw [mulN_succ (turnN_on hp), mulN_succ hp, turnN_add (mulN_on hp n) hp, mulN_turn hp n]
theorem mulN_addN {p q : Nat × Nat} (hp : onN p) (hq : onN q) : ∀ n, mulN n (addN p q) = addN (mulN n p) (mulN n q)
  | 0 => by rw [mulN_zero, mulN_zero, mulN_zero, addN_none noneN_on]
  | n + 1 => by
    have a := mulN_on hp n
    have b := mulN_on hq n
    rw [mulN_succ (addN_on hp hq), mulN_addN hp hq n, mulN_succ hp, mulN_succ hq, addN_assoc a b (addN_on hp hq), ← addN_assoc b hp hq, addN_comm (mulN n q) p, addN_assoc hp b hq, ← addN_assoc a hp (addN_on b hq)]
end Go.Proofs.YtgbliacncahooaaDoor
/- Points with a denominator and the product of their numbers (four numbers a point): sums and doubles. No condition but what each names. -/
namespace Go.Proofs.YtgbliacncahooaaDoor
set_option linter.unusedVariables false
def RepX (X Y Z T x y : K) : Prop := Z ≠ 0 ∧ X = x * Z ∧ Y = y * Z ∧ T = x * y * Z
theorem repX_rep {X Y Z T x y : K} (h : RepX X Y Z T x y) : Rep X Y Z x y := ⟨h.1, h.2.1, h.2.2.1⟩
theorem repX_one (x y : K) : RepX x y 1 (x * y) x y := ⟨k_one_ne, (Fin.mul_one x).symm, (Fin.mul_one y).symm, (Fin.mul_one _).symm⟩
theorem ext_close {E F G H x3 y3 v p m : K} (hv : v ≠ 0) (hp : p ≠ 0) (hm : m ≠ 0) (e1 : E = x3 * p * v) (e2 : H = y3 * m * v) (e3 : F = m * v) (e4 : G = p * v) : RepX (E * F) (G * H) (F * G) (E * H) x3 y3 := by
  subst e1 e2 e3 e4
  refine ⟨k_mul_ne (k_mul_ne hm hv) (k_mul_ne hp hv), ?_, ?_, ?_⟩
  · clear hv hp hm; grind
  · clear hv hp hm; grind
  · clear hv hp hm; grind
theorem ext_e (x1 y1 z1 x2 y2 z2 : K) : (y1 * z1 + x1 * z1) * (y2 * z2 + x2 * z2) - (y1 * z1 - x1 * z1) * (y2 * z2 - x2 * z2) = (x1 * y2 + y1 * x2) * (2 * (z1 * z2)) := by grind
theorem ext_h (x1 y1 z1 x2 y2 z2 : K) : (y1 * z1 + x1 * z1) * (y2 * z2 + x2 * z2) + (y1 * z1 - x1 * z1) * (y2 * z2 - x2 * z2) = (y1 * y2 + x1 * x2) * (2 * (z1 * z2)) := by grind
theorem ext_f (d x1 y1 z1 x2 y2 z2 : K) : 2 * (z1 * z2) - 2 * d * (x1 * y1 * z1) * (x2 * y2 * z2) = (1 - d * x1 * x2 * y1 * y2) * (2 * (z1 * z2)) := by grind
theorem ext_g (d x1 y1 z1 x2 y2 z2 : K) : 2 * (z1 * z2) + 2 * d * (x1 * y1 * z1) * (x2 * y2 * z2) = (1 + d * x1 * x2 * y1 * y2) * (2 * (z1 * z2)) := by grind
/-- The usual sum in four numbers. -/
theorem repX_plus {X1 Y1 Z1 T1 X2 Y2 Z2 T2 x1 y1 x2 y2 : K} (h1 : RepX X1 Y1 Z1 T1 x1 y1) (h2 : RepX X2 Y2 Z2 T2 x2 y2) (o1 : onK x1 y1) (o2 : onK x2 y2) (E F G H : K)
    (hE : E = (Y1 + X1) * (Y2 + X2) - (Y1 - X1) * (Y2 - X2)) (hH : H = (Y1 + X1) * (Y2 + X2) + (Y1 - X1) * (Y2 - X2)) (hF : F = 2 * (Z1 * Z2) - 2 * dK * T1 * T2) (hG : G = 2 * (Z1 * Z2) + 2 * dK * T1 * T2) :
    RepX (E * F) (G * H) (F * G) (E * H) (addX x1 y1 x2 y2) (addY x1 y1 x2 y2) := by
  obtain ⟨z1, rfl, rfl, rfl⟩ := h1
  obtain ⟨z2, rfl, rfl, rfl⟩ := h2
  rw [ext_e] at hE
  rw [ext_h] at hH
  rw [ext_f] at hF
  rw [ext_g] at hG
  rw [← addX_mul o1 o2] at hE
  rw [← addY_mul o1 o2] at hH
  exact ext_close (k_mul_ne k_two_ne (k_mul_ne z1 z2)) (complete_plus o1 o2) (complete_minus o1 o2) hE hH hF hG
theorem dbl_e (x y z : K) : (x * z + y * z) * (x * z + y * z) - x * z * (x * z) - y * z * (y * z) = (x * y + y * x) * (z * z) := by grind
theorem dbl_g {x y : K} (h : onK x y) (z : K) : y * z * (y * z) - x * z * (x * z) = (1 + dK * x * x * y * y) * (z * z) := by
  unfold onK at h
  rw [← h]
  clear h
  grind
theorem dbl_h (x y z : K) : x * z * (x * z) + y * z * (y * z) = (y * y + x * x) * (z * z) := by grind
theorem dbl_f (d x y z : K) : 2 * (z * z) - (1 + d * x * x * y * y) * (z * z) = (1 - d * x * x * y * y) * (z * z) := by grind
/-- The usual double (T is not asked for). -/
theorem repX_dbl {X Y Z x y : K} (h : Rep X Y Z x y) (o : onK x y) (E F G H : K) (hE : E = (X + Y) * (X + Y) - X * X - Y * Y) (hG : G = Y * Y - X * X) (hH : H = X * X + Y * Y) (hF : F = 2 * (Z * Z) - G) :
    RepX (E * F) (G * H) (F * G) (E * H) (addX x y x y) (addY x y x y) := by
  obtain ⟨z, rfl, rfl⟩ := h
  rw [dbl_e] at hE
  rw [dbl_g o] at hG
  rw [dbl_h] at hH
  rw [hG, dbl_f] at hF
  rw [← addX_mul o o] at hE
  rw [← addY_mul o o] at hH
  exact ext_close (k_mul_ne z z) (complete_plus o o) (complete_minus o o) hE hH hF hG
end Go.Proofs.YtgbliacncahooaaDoor
/- Points as ratios with the product of their numbers beside them, as the package adds them; products by rows of bits. No condition but what each names. -/
namespace Go.Proofs.YtgbliacncahooaaDoor
set_option linter.unusedVariables false
abbrev Rat4 := Nat × Nat × Nat × Nat
def overR (p : Nat × Nat) : Rat4 := (p.1, p.2, 1, mulF p.1 p.2)
def sumR (p q : Rat4) : Rat4 :=
  (mulF (addF (mulF p.1 q.2.1) (mulF p.2.1 q.1)) (subF (mulF p.2.2.1 q.2.2.1) (mulF dN (mulF p.2.2.2 q.2.2.2))),
   mulF (addF (mulF p.2.1 q.2.1) (mulF p.1 q.1)) (addF (mulF p.2.2.1 q.2.2.1) (mulF dN (mulF p.2.2.2 q.2.2.2))),
   mulF (addF (mulF p.2.2.1 q.2.2.1) (mulF dN (mulF p.2.2.2 q.2.2.2))) (subF (mulF p.2.2.1 q.2.2.1) (mulF dN (mulF p.2.2.2 q.2.2.2))),
   mulF (addF (mulF p.1 q.2.1) (mulF p.2.1 q.1)) (addF (mulF p.2.1 q.2.1) (mulF p.1 q.1)))
def plainR (r : Rat4) : Nat × Nat := (mulF r.1 (invF r.2.2.1), mulF r.2.1 (invF r.2.2.1))
def RepR (r : Rat4) (x y : K) : Prop := RepX (toK r.1) (toK r.2.1) (toK r.2.2.1) (toK r.2.2.2) x y
theorem repR_over (p : Nat × Nat) : RepR (overR p) (toK p.1) (toK p.2) := by
  unfold RepR overR
  simp only [toK_mul]
  have h1 : toK 1 = 1 := rfl
  rw [h1]
  exact repX_one _ _
theorem rx_x (x1 y1 z1 x2 y2 z2 : K) : x1 * z1 * (y2 * z2) + y1 * z1 * (x2 * z2) = (x1 * y2 + y1 * x2) * (z1 * z2) := by grind
theorem rx_y (x1 y1 z1 x2 y2 z2 : K) : y1 * z1 * (y2 * z2) + x1 * z1 * (x2 * z2) = (y1 * y2 + x1 * x2) * (z1 * z2) := by grind
theorem rx_f (d x1 y1 z1 x2 y2 z2 : K) : z1 * z2 - d * (x1 * y1 * z1 * (x2 * y2 * z2)) = (1 - d * x1 * x2 * y1 * y2) * (z1 * z2) := by grind
theorem rx_g (d x1 y1 z1 x2 y2 z2 : K) : z1 * z2 + d * (x1 * y1 * z1 * (x2 * y2 * z2)) = (1 + d * x1 * x2 * y1 * y2) * (z1 * z2) := by grind
theorem repX_sum {X1 Y1 Z1 T1 X2 Y2 Z2 T2 x1 y1 x2 y2 : K} (h1 : RepX X1 Y1 Z1 T1 x1 y1) (h2 : RepX X2 Y2 Z2 T2 x2 y2) (o1 : onK x1 y1) (o2 : onK x2 y2) :
    RepX ((X1 * Y2 + Y1 * X2) * (Z1 * Z2 - dK * (T1 * T2))) ((Y1 * Y2 + X1 * X2) * (Z1 * Z2 + dK * (T1 * T2))) ((Z1 * Z2 + dK * (T1 * T2)) * (Z1 * Z2 - dK * (T1 * T2))) ((X1 * Y2 + Y1 * X2) * (Y1 * Y2 + X1 * X2)) (addX x1 y1 x2 y2) (addY x1 y1 x2 y2) := by
  obtain ⟨z1, rfl, rfl, rfl⟩ := h1
  obtain ⟨z2, rfl, rfl, rfl⟩ := h2
  rw [rx_x, rx_y, rx_f, rx_g]
  rw [← addX_mul o1 o2, ← addY_mul o1 o2]
  have h := ext_close (x3 := addX x1 y1 x2 y2) (y3 := addY x1 y1 x2 y2) (k_mul_ne z1 z2) (complete_plus o1 o2) (complete_minus o1 o2) rfl rfl rfl rfl
  obtain ⟨a, b, c, d⟩ := h
  refine ⟨?_, b.trans ?_, ?_, d.trans ?_⟩
  · rw [Fin.mul_comm]; exact a
  · rw [Fin.mul_comm ((1 + dK * x1 * x2 * y1 * y2) * (Z1 * Z2))]
  · rw [Fin.mul_comm, c, Fin.mul_comm ((1 + dK * x1 * x2 * y1 * y2) * (Z1 * Z2))]
  · rw [Fin.mul_comm ((1 + dK * x1 * x2 * y1 * y2) * (Z1 * Z2))]
theorem repR_sum {p q : Rat4} {x1 y1 x2 y2 : K} (h1 : RepR p x1 y1) (h2 : RepR q x2 y2) (o1 : onK x1 y1) (o2 : onK x2 y2) : RepR (sumR p q) (addX x1 y1 x2 y2) (addY x1 y1 x2 y2) := by
  unfold RepR sumR
  simp only [toK_mul, toK_add, toK_subM]
  exact repX_sum h1 h2 o1 o2
theorem plainR_rep {r : Rat4} {p : Nat × Nat} (hp : p.1 < pp ∧ p.2 < pp) (h : RepR r (toK p.1) (toK p.2)) : plainR r = p := by
  have h2 : RepN (r.1, r.2.1, r.2.2.1) (toK p.1) (toK p.2) := repX_rep h
  exact flatN_rep hp h2
/-- The sum of two points, as the package finds it. -/
theorem add_plain {p q : Nat × Nat} (hp : onN p) (hq : onN q) : plainR (sumR (overR p) (overR q)) = addN p q := by
  refine plainR_rep (addN_lt p q) ?_
  rw [addN_x, addN_y]
  exact repR_sum (repR_over p) (repR_over q) hp.2.2 hq.2.2
theorem add_flat {p q : Nat × Nat} (hp : onN p) (hq : onN q) : flatN (plusN (p.1, p.2, 1) (q.1, q.2, 1)) = addN p q :=
  flatN_rep (addN_lt p q) (repN_add (repN_one p.1 p.2) (repN_one q.1 q.2) hp hq)
/-- A product by a row of bits, as the package finds it. -/
def fastR (p : Nat × Nat) (l : List Bool) : Rat4 := l.foldl (fun t b => if b then sumR (sumR t t) (overR p) else sumR t t) (overR (0, 1))
theorem fastR_snoc (p : Nat × Nat) (l : List Bool) (b : Bool) : fastR p (l ++ [b]) = if b then sumR (sumR (fastR p l) (fastR p l)) (overR p) else sumR (fastR p l) (fastR p l) := by simp [fastR]
theorem fastR_rep {p : Nat × Nat} (hp : onN p) (l : List Bool) : RepR (fastR p l) (toK (mulN (hvB l) p).1) (toK (mulN (hvB l) p).2) := by
  obtain ⟨m, hm⟩ : ∃ m, m = l.reverse := ⟨_, rfl⟩
  have hl : l = m.reverse := by rw [hm, List.reverse_reverse]
  subst hl
  clear hm
  induction m with
  | nil =>
    rw [show hvB ([] : List Bool).reverse = 0 from rfl, mulN_zero]
    exact repR_over (0, 1)
  | cons b m ih =>
    rw [List.reverse_cons, fastR_snoc, hvB_snoc]
    have o := mulN_on hp (hvB m.reverse)
    have h2 : RepR (sumR (fastR p m.reverse) (fastR p m.reverse)) (toK (mulN (2 * hvB m.reverse) p).1) (toK (mulN (2 * hvB m.reverse) p).2) := by
      rw [mulN_double hp, addN_x, addN_y]
      exact repR_sum ih ih o.2.2 o.2.2
    cases b with
    | false => exact h2
    | true =>
      rw [if_pos rfl, show (true : Bool).toNat = 1 from rfl, mulN_succ hp, addN_x, addN_y]
      exact repR_sum h2 (repR_over p) (mulN_on hp (2 * hvB m.reverse)).2.2 hp.2.2
theorem mul_plain {p : Nat × Nat} (hp : onN p) (l : List Bool) : plainR (fastR p l) = mulN (hvB l) p := plainR_rep (mulN_lt _ p) (fastR_rep hp l)
theorem mul_flat {p : Nat × Nat} (hp : onN p) (l : List Bool) : flatN (fastN p l) = mulN (hvB l) p := flatN_rep (mulN_lt _ p) (fastN_rep hp l)
end Go.Proofs.YtgbliacncahooaaDoor
