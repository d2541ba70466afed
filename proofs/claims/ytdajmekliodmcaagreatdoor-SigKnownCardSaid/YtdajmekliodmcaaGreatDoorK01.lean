/- Several texts, one behind the other; each says by itself what it proves, and on what conditions. -/
namespace Go.Proofs.YtdajmekliodmcaaGreatDoor.P8
set_option linter.unusedSimpArgs false
set_option linter.unusedVariables false
def Pr (n : Nat) : Prop := 2 ≤ n ∧ ∀ d, d ∣ n → d = 1 ∨ d = n
theorem Pr.pos {p : Nat} (h : Pr p) : 0 < p := by have := h.1; omega
theorem Pr.coprime {p a : Nat} (h : Pr p) (ha : ¬ p ∣ a) : Nat.Coprime p a := by
  rcases h.2 _ (Nat.gcd_dvd_left p a) with h1 | h1
  · exact h1
  · exact absurd (h1 ▸ Nat.gcd_dvd_right p a) ha
theorem Pr.dvd_mul {p a b : Nat} (h : Pr p) (hd : p ∣ a * b) : p ∣ a ∨ p ∣ b := by
  by_cases ha : p ∣ a
  · exact .inl ha
  · exact .inr ((h.coprime ha).dvd_of_dvd_mul_left hd)
theorem Pr.dvd_pow {p a n : Nat} (h : Pr p) (hd : p ∣ a ^ n) : p ∣ a := by
  induction n with
  | zero => have := Nat.dvd_one.1 (by simpa using hd); have := h.1; omega
  | succ n ih =>
    rw [Nat.pow_succ] at hd
    rcases h.dvd_mul hd with h1 | h1
    · exact ih h1
    · exact h1
theorem has_prime (n : Nat) (h : 2 ≤ n) : ∃ r, Pr r ∧ r ∣ n := by
  induction n using Nat.strongRecOn with
  | ind n ih =>
    by_cases hp : Pr n
    · exact ⟨n, hp, Nat.dvd_refl _⟩
    · have : ∃ d, d ∣ n ∧ ¬ (d = 1 ∨ d = n) := by
        apply Classical.byContradiction
        intro hc
        exact hp ⟨h, fun d hd => Classical.byContradiction fun hn => hc ⟨d, hd, hn⟩⟩
      obtain ⟨d, hd, hn⟩ := this
      have h0 : d ≠ 0 := by rintro rfl; have := Nat.eq_zero_of_zero_dvd hd; omega
      have hle := Nat.le_of_dvd (by omega) hd
      obtain ⟨r, hr, hrd⟩ := ih d (by omega) (by omega)
      exact ⟨r, hr, Nat.dvd_trans hrd hd⟩
theorem small_prime (n : Nat) (h : 2 ≤ n) (hp : ¬ Pr n) : ∃ r, Pr r ∧ r ∣ n ∧ r * r ≤ n := by
  have : ∃ d, d ∣ n ∧ ¬ (d = 1 ∨ d = n) := by
    apply Classical.byContradiction
    intro hc
    exact hp ⟨h, fun d hd => Classical.byContradiction fun hn => hc ⟨d, hd, hn⟩⟩
  obtain ⟨d, ⟨e, he⟩, hn⟩ := this
  have h0 : d ≠ 0 := by rintro rfl; simp at he; omega
  have h1 : e ≠ 0 := by rintro rfl; simp at he; omega
  have h2 : e ≠ 1 := by rintro rfl; simp at he; omega
  have key : ∀ x y : Nat, n = x * y → 2 ≤ x → x ≤ y → ∃ r, Pr r ∧ r ∣ n ∧ r * r ≤ n := by
    intro x y hxy hx hle
    obtain ⟨r, hr, hrd⟩ := has_prime x hx
    have hrx := Nat.le_of_dvd (by omega) hrd
    refine ⟨r, hr, hxy ▸ Nat.dvd_mul_right_of_dvd hrd y, ?_⟩
    rw [hxy]
    exact Nat.mul_le_mul hrx (Nat.le_trans hrx hle)
  rcases Nat.le_total d e with hl | hl
  · exact key d e he (by omega) hl
  · exact key e d (by rw [he, Nat.mul_comm]) (by omega) hl
def ch : Nat → Nat → Nat
  | _, 0 => 1
  | 0, _ + 1 => 0
  | n + 1, k + 1 => ch n k + ch n (k + 1)
theorem ch_zero (n : Nat) : ch n 0 = 1 := by cases n <;> rfl
theorem ch_succ (n k : Nat) : ch (n + 1) (k + 1) = ch n k + ch n (k + 1) := rfl
theorem ch_over (n : Nat) : ∀ k, n < k → ch n k = 0 := by
  induction n with
  | zero => intro k hk; cases k with
    | zero => omega
    | succ k => rfl
  | succ n ih => intro k hk; cases k with
    | zero => omega
    | succ k => rw [ch_succ, ih k (by omega), ih (k + 1) (by omega)]
theorem ch_self (n : Nat) : ch n n = 1 := by
  induction n with
  | zero => rfl
  | succ n ih => rw [ch_succ, ih, ch_over n (n + 1) (by omega)]
theorem ch_mul (n : Nat) : ∀ k, (k + 1) * ch (n + 1) (k + 1) = (n + 1) * ch n k := by
  induction n with
  | zero => intro k; cases k with
    | zero => rfl
    | succ k => simp [ch]
  | succ n ih => intro k; cases k with
    | zero => have := ih 0; rw [ch_zero] at this ⊢; rw [ch_succ, ch_zero]; omega
    | succ j =>
      have h1 := ih j
      have h2 := ih (j + 1)
      rw [ch_succ (n + 1) (j + 1), Nat.mul_add, h2]
      have h3 : (j + 1 + 1) * ch (n + 1) (j + 1) = (n + 1) * ch n j + ch (n + 1) (j + 1) := by rw [← h1, Nat.add_mul (j + 1) 1]; omega
      rw [h3, ch_succ n j]
      generalize ch n j = x
      generalize ch n (j + 1) = y
      rw [Nat.add_mul (n + 1) 1 (x + y), Nat.mul_add]
      omega
def bin (n a : Nat) : Nat → Nat
  | 0 => 0
  | m + 1 => bin n a m + ch n m * a ^ m
theorem bin_succ (n a : Nat) : ∀ m, bin (n + 1) a (m + 1) = bin n a (m + 1) + a * bin n a m := by
  intro m
  induction m with
  | zero => simp [bin, ch_zero]
  | succ m ih =>
    rw [bin, ih, ch_succ, bin, bin]
    rw [bin, Nat.mul_add, Nat.pow_succ, Nat.add_mul]
    have e1 : a * (ch n m * a ^ m) = ch n m * (a ^ m * a) := by
      rw [Nat.mul_left_comm, Nat.mul_comm a]
    rw [e1]
    omega
theorem bin_all (n a : Nat) : bin n a (n + 1) = (a + 1) ^ n := by
  induction n with
  | zero => rfl
  | succ n ih =>
    have e : (a + 1) ^ (n + 1) = (a + 1) ^ n + a * (a + 1) ^ n := by rw [Nat.pow_succ, Nat.mul_add, Nat.mul_one, Nat.mul_comm a]; omega
    rw [bin_succ, bin, ch_over n (n + 1) (by omega), ih, e]
    omega
theorem Pr.ch_dvd {p : Nat} (h : Pr p) (k : Nat) (h0 : 0 < k) (hk : k < p) : p ∣ ch p k := by
  obtain ⟨j, rfl⟩ : ∃ j, k = j + 1 := ⟨k - 1, by omega⟩
  obtain ⟨q, rfl⟩ : ∃ q, p = q + 1 := ⟨p - 1, by omega⟩
  have h1 := ch_mul q j
  rcases h.dvd_mul (a := j + 1) (b := ch (q + 1) (j + 1)) ⟨ch q j, h1⟩ with h2 | h2
  · have := Nat.le_of_dvd (by omega) h2; omega
  · exact h2
theorem Pr.bin_one {p : Nat} (h : Pr p) (a : Nat) : ∀ m, 1 ≤ m → m ≤ p → bin p a m % p = 1 := by
  intro m h1 hm
  have hp := h.1
  induction m with
  | zero => omega
  | succ m ih =>
    cases m with
    | zero => rw [show bin p a (0 + 1) = 1 by simp [bin, ch_zero]]; exact Nat.mod_eq_of_lt hp
    | succ m =>
      obtain ⟨t, ht⟩ := h.ch_dvd (m + 1) (by omega) (by omega)
      rw [bin, ht, Nat.mul_assoc, Nat.add_mul_mod_self_left]
      exact ih (by omega) (by omega)
theorem Pr.succ_pow {p : Nat} (h : Pr p) (a : Nat) : (a + 1) ^ p % p = (a ^ p + 1) % p := by
  have h1 := bin_all p a
  rw [bin, ch_self, Nat.one_mul] at h1
  rw [← h1, Nat.add_mod, h.bin_one a p (by have := h.1; omega) (Nat.le_refl _), Nat.add_mod (a ^ p) 1, Nat.add_comm]
  have h2 : 1 % p = 1 := Nat.mod_eq_of_lt h.1
  rw [h2]
theorem Pr.fermat {p : Nat} (h : Pr p) (a : Nat) : a ^ p % p = a % p := by
  induction a with
  | zero => rw [Nat.zero_pow h.pos]
  | succ a ih => rw [h.succ_pow, Nat.add_mod, ih, ← Nat.add_mod]
theorem dvd_of_mod_eq {m a b : Nat} (h : a % m = b % m) (hle : b ≤ a) : m ∣ a - b := Nat.dvd_of_mod_eq_zero (Nat.sub_mod_eq_zero_of_mod_eq h)
theorem Pr.fermat_one {p : Nat} (h : Pr p) (a : Nat) (ha : ¬ p ∣ a) : a ^ (p - 1) % p = 1 := by
  have hp := h.1
  have h1 := h.fermat a
  have h0 : 0 < a := by rcases Nat.eq_zero_or_pos a with rfl | h; exact absurd (Nat.dvd_zero p) ha; exact h
  have hpow : 0 < a ^ (p - 1) := Nat.pow_pos h0
  have h2 : a ^ p = a * a ^ (p - 1) := by rw [Nat.mul_comm, ← Nat.pow_succ]; congr 1; omega
  have h3 : p ∣ a * (a ^ (p - 1) - 1) := by
    have h4 : a ≤ a ^ p := by rw [h2]; exact Nat.le_mul_of_pos_right a hpow
    have h5 := dvd_of_mod_eq h1 h4
    rw [h2] at h5
    rwa [Nat.mul_sub, Nat.mul_one]
  rcases h.dvd_mul h3 with h4 | h4
  · exact absurd h4 ha
  · obtain ⟨t, ht⟩ := h4
    rw [show a ^ (p - 1) = 1 + p * t by omega, Nat.add_mul_mod_self_left, Nat.mod_eq_of_lt hp]
def pwm (m : Nat) : Nat → Nat → Nat → Nat
  | 0, _, _ => 1 % m
  | f + 1, a, n => if n = 0 then 1 % m else if n % 2 = 1 then a * pwm m f (a * a % m) (n / 2) % m else pwm m f (a * a % m) (n / 2)
theorem pwm_ok (m : Nat) : ∀ f a n, n < 2 ^ f → pwm m f a n = a ^ n % m := by
  intro f
  induction f with
  | zero => intro a n h; have : n = 0 := by simpa using h
            rw [this]; rfl
  | succ f ih =>
    intro a n h
    unfold pwm
    by_cases h0 : n = 0
    · rw [if_pos h0, h0]; rfl
    · rw [if_neg h0]
      have hh : n / 2 < 2 ^ f := by rw [Nat.pow_succ] at h; omega
      rw [ih _ _ hh, ← Nat.pow_mod, ← Nat.pow_two, ← Nat.pow_mul]
      by_cases h1 : n % 2 = 1
      · rw [if_pos h1, Nat.mul_mod, Nat.mod_mod, ← Nat.mul_mod, Nat.mul_comm, ← Nat.pow_succ]
        congr 2; omega
      · rw [if_neg h1]
        congr 2; omega
theorem pow_mod_one {m a n k : Nat} (h : a ^ n % m = 1 % m) : a ^ (n * k) % m = 1 % m := by
  rw [Nat.pow_mul, Nat.pow_mod, h, ← Nat.pow_mod, Nat.one_pow]
theorem pow_gcd {m a : Nat} (hm : 2 ≤ m) (hc : Nat.Coprime m a) : ∀ x y, a ^ x % m = 1 → a ^ y % m = 1 → a ^ (Nat.gcd x y) % m = 1 := by
  intro x
  induction x using Nat.strongRecOn with
  | ind x ih =>
    intro y hx hy
    by_cases h0 : x = 0
    · subst h0; rwa [Nat.gcd_zero_left]
    · rw [Nat.gcd_rec]
      refine ih (y % x) (Nat.mod_lt _ (by omega)) x ?_ hx
      have h1 : 1 % m = 1 := Nat.mod_eq_of_lt hm
      have e : a ^ y = a ^ (x * (y / x)) * a ^ (y % x) := by rw [← Nat.pow_add, Nat.div_add_mod]
      rw [e, Nat.mul_mod, pow_mod_one (k := y / x) (by rw [hx, h1]), h1, Nat.one_mul, Nat.mod_mod] at hy
      exact hy
theorem pock_dvd {p q m a r : Nat} (hp0 : 2 ≤ p) (hq : Pr q) (hm : p - 1 = q * m) (hr : Pr r) (hrp : r ∣ p) (h1 : a ^ (p - 1) % p = 1) (t : Nat) (ht : t * (a ^ m % p + (p - 1)) % p = 1) : q ∣ r - 1 := by
  have hr2 := hr.1
  have hle := Nat.le_of_dvd (by omega) hrp
  have hmod : ∀ x, x % p % r = x % r := fun x => Nat.mod_mod_of_dvd x hrp
  have hb1 : a ^ (p - 1) % r = 1 := by rw [← hmod, h1, Nat.mod_eq_of_lt hr2]
  have hra : ¬ r ∣ a := by
    intro h
    have h2 : p - 1 ≠ 0 := by omega
    have := Nat.dvd_trans h (show a ∣ a ^ (p - 1) from by rw [show p - 1 = (p - 2) + 1 by omega, Nat.pow_succ]; exact Nat.dvd_mul_left _ _)
    rw [Nat.mod_eq_zero_of_dvd this] at hb1; omega
  have hc := hr.coprime hra
  have hrb : ¬ r ∣ a ^ m := fun h => hra (hr.dvd_pow h)
  have hx : (a ^ m) ^ q % r = 1 := by rw [← Nat.pow_mul, Nat.mul_comm, ← hm]; exact hb1
  have hy : (a ^ m) ^ (r - 1) % r = 1 := hr.fermat_one _ hrb
  rcases hq.2 _ (Nat.gcd_dvd_left q (r - 1)) with h | h
  · exfalso
    have h2 := pow_gcd hr2 (hr.coprime hrb) q (r - 1) hx hy
    rw [h, Nat.pow_one] at h2
    -- a ^ m is one modulo r: then what is multiplied is nought modulo r
    have h3 : (a ^ m % p + (p - 1)) % r = 0 := by
      obtain ⟨s, hs⟩ := hrp
      have e1 : a ^ m % p % r = 1 := by rw [hmod, h2]
      have : (a ^ m % p + (p - 1)) = (a ^ m % p - 1) + p := by
        have : 0 < a ^ m % p := by rcases Nat.eq_zero_or_pos (a ^ m % p) with h | h; rw [h] at e1; simp at e1; exact h
        omega
      rw [this, hs, Nat.add_mul_mod_self_left]
      rw [hs] at e1
      rw [hs] at hle
      exact Nat.sub_mod_eq_zero_of_mod_eq (by rw [e1, Nat.mod_eq_of_lt hr2])
    have h4 : t * (a ^ m % p + (p - 1)) % p % r = 1 := by rw [ht, Nat.mod_eq_of_lt hr2]
    rw [hmod, Nat.mul_mod, h3, Nat.mul_zero, Nat.zero_mod] at h4
    omega
  · exact h ▸ Nat.gcd_dvd_right q (r - 1)
theorem pock1 (p q m a t : Nat) (hp : 2 ≤ p) (hq : Pr q) (hm : p - 1 = q * m) (hb : p ≤ q * q) (h1 : a ^ (p - 1) % p = 1) (ht : t * (a ^ m % p + (p - 1)) % p = 1) : Pr p := by
  apply Classical.byContradiction
  intro hn
  obtain ⟨r, hr, hrp, hrr⟩ := small_prime p hp hn
  have h := Nat.le_of_dvd (by have := hr.1; omega) (pock_dvd hp hq hm hr hrp h1 t ht)
  have : r * r ≤ q * q := by omega
  have h2 : q + 1 ≤ r := by have := hr.1; omega
  have := Nat.mul_le_mul h2 h2
  rw [Nat.add_mul, Nat.mul_add] at this
  omega
theorem pock2 (p q q2 m m2 a a2 t t2 : Nat) (hp : 2 ≤ p) (hq : Pr q) (hq2 : Pr q2) (hne : q ≠ q2) (hm : p - 1 = q * m) (hm2 : p - 1 = q2 * m2) (hb : p ≤ (q * q2) * (q * q2))
    (h1 : a ^ (p - 1) % p = 1) (ht : t * (a ^ m % p + (p - 1)) % p = 1) (h2 : a2 ^ (p - 1) % p = 1) (ht2 : t2 * (a2 ^ m2 % p + (p - 1)) % p = 1) : Pr p := by
  apply Classical.byContradiction
  intro hn
  obtain ⟨r, hr, hrp, hrr⟩ := small_prime p hp hn
  have hr2 := hr.1
  have d1 := pock_dvd hp hq hm hr hrp h1 t ht
  have d2 := pock_dvd hp hq2 hm2 hr hrp h2 t2 ht2
  have hco : Nat.Coprime q q2 := hq.coprime (fun h => by
    rcases hq2.2 _ h with e | e
    · have := hq.1; omega
    · exact hne e)
  have d3 : q * q2 ∣ r - 1 := hco.mul_dvd_of_dvd_of_dvd d1 d2
  have h := Nat.le_of_dvd (by omega) d3
  generalize q * q2 = z at *
  have h3 : z + 1 ≤ r := by omega
  have := Nat.mul_le_mul h3 h3
  rw [Nat.add_mul, Nat.mul_add] at this
  omega
theorem pock1w (p q m a t : Nat) (hp : 2 ≤ p) (hp2 : p < 2 ^ 256) (hq : Pr q) (hm : p - 1 = q * m) (hb : p ≤ q * q) (h1 : pwm p 256 a (p - 1) = 1) (ht : t * (pwm p 256 a m + (p - 1)) % p = 1) : Pr p := by
  have hmm : m ≤ p - 1 := by rw [hm]; exact Nat.le_mul_of_pos_left m hq.pos
  rw [pwm_ok p 256 a _ (by omega)] at h1 ht
  exact pock1 p q m a t hp hq hm hb h1 ht
theorem pock2w (p q q2 m m2 a a2 t t2 : Nat) (hp : 2 ≤ p) (hp2 : p < 2 ^ 256) (hq : Pr q) (hq2 : Pr q2) (hne : q ≠ q2) (hm : p - 1 = q * m) (hm2 : p - 1 = q2 * m2) (hb : p ≤ (q * q2) * (q * q2))
    (h1 : pwm p 256 a (p - 1) = 1) (ht : t * (pwm p 256 a m + (p - 1)) % p = 1) (h2 : pwm p 256 a2 (p - 1) = 1) (ht2 : t2 * (pwm p 256 a2 m2 + (p - 1)) % p = 1) : Pr p := by
  have hmm : m ≤ p - 1 := by rw [hm]; exact Nat.le_mul_of_pos_left m hq.pos
  have hmm2 : m2 ≤ p - 1 := by rw [hm2]; exact Nat.le_mul_of_pos_left m2 hq2.pos
  rw [pwm_ok p 256 a _ (by omega)] at h1 ht
  rw [pwm_ok p 256 a2 _ (by omega)] at h2 ht2
  exact pock2 p q q2 m m2 a a2 t t2 hp hq hq2 hne hm hm2 hb h1 ht h2 ht2
def noDiv (n : Nat) : Nat → Nat → Bool
  | 0, _ => true
  | f + 1, d => n % d != 0 && noDiv n f (d + 1)
theorem noDiv_ok (n : Nat) : ∀ f d, noDiv n f d = true → ∀ e, d ≤ e → e < d + f → ¬ e ∣ n := by
  intro f
  induction f with
  | zero => intro d h e h1 h2; omega
  | succ f ih =>
    intro d h e h1 h2 hd
    unfold noDiv at h
    rw [Bool.and_eq_true] at h
    by_cases he : e = d
    · subst he
      have h3 := h.1
      rw [Nat.mod_eq_zero_of_dvd hd] at h3
      simp at h3
    · exact ih (d + 1) h.2 e (by omega) (by omega) hd
theorem trial (n f : Nat) (h : 2 ≤ n) (hf : n < (f + 2) * (f + 2)) (hd : noDiv n f 2 = true) : Pr n := by
  apply Classical.byContradiction
  intro hn
  obtain ⟨r, hr, hrp, hrr⟩ := small_prime n h hn
  refine noDiv_ok n f 2 hd r hr.1 ?_ hrp
  rcases Nat.lt_or_ge r (2 + f) with h | h
  · exact h
  · have := Nat.mul_le_mul h h
    rw [Nat.add_comm 2 f] at this
    omega
theorem pr_1923133 : Pr 1923133 := trial 1923133 1386 (by decide) (by decide) (by decide +kernel)
theorem pr_75707 : Pr 75707 := trial 75707 275 (by decide) (by decide) (by decide +kernel)
theorem pr_8574133 : Pr 8574133 := trial 8574133 2928 (by decide) (by decide) (by decide +kernel)
theorem pr_127 : Pr 127 := trial 127 11 (by decide) (by decide) (by decide +kernel)
theorem pr_1919519569386763 : Pr 1919519569386763 :=
  pock2w 1919519569386763 8574133 127 223873314 15114327318006 2 2 1290547218147893 1870148777187772 (by decide +kernel) (by decide +kernel) pr_8574133 pr_127 (by decide +kernel) (by decide +kernel) (by decide +kernel) (by decide +kernel) (by decide +kernel) (by decide +kernel) (by decide +kernel) (by decide +kernel)
theorem pr_75445702479781427272750846543864801 : Pr 75445702479781427272750846543864801 :=
  pock2w 75445702479781427272750846543864801 1919519569386763 75707 39304471641247389600 996548568557483816196003626400 2 2 74602835786463724888147869570305675 8986369574106813140303762220009459 (by decide +kernel) (by decide +kernel) pr_1919519569386763 pr_75707 (by decide +kernel) (by decide +kernel) (by decide +kernel) (by decide +kernel) (by decide +kernel) (by decide +kernel) (by decide +kernel) (by decide +kernel)
theorem pr_74058212732561358302231226437062788676166966415465897661863160754340907 : Pr 74058212732561358302231226437062788676166966415465897661863160754340907 :=
  pock2w 74058212732561358302231226437062788676166966415465897661863160754340907 75445702479781427272750846543864801 1923133 981609426360740691344999861639072106 38509147694185143878364744631319200843710219946028640589009268082 2 2 70463328703800545008217672123162676565183935400628861884889913886334520 42667922733402173883383430511031973246347600196095044695562289082088131 (by decide +kernel) (by decide +kernel) pr_75445702479781427272750846543864801 pr_1923133 (by decide +kernel) (by decide +kernel) (by decide +kernel) (by decide +kernel) (by decide +kernel) (by decide +kernel) (by decide +kernel) (by decide +kernel)
theorem pr_57896044618658097711785492504343953926634992332820282019728792003956564819949 : Pr 57896044618658097711785492504343953926634992332820282019728792003956564819949 :=
  pock1w 57896044618658097711785492504343953926634992332820282019728792003956564819949 74058212732561358302231226437062788676166966415465897661863160754340907 781764 2 55540832096118778044507775605005710249233119951144946814680141076505643269084 (by decide +kernel) (by decide +kernel) pr_74058212732561358302231226437062788676166966415465897661863160754340907 (by decide +kernel) (by decide +kernel) (by decide +kernel) (by decide +kernel)
def pp : Nat := 57896044618658097711785492504343953926634992332820282019728792003956564819949
theorem pp_prime : Pr pp := pr_57896044618658097711785492504343953926634992332820282019728792003956564819949
def addF (a b : Nat) : Nat := (a + b) % pp
def subF (a b : Nat) : Nat := (a + 3 * pp - b) % pp
def mulF (a b : Nat) : Nat := a * b % pp
theorem pp_pos : 0 < pp := by decide
theorem addF_lt (a b : Nat) : addF a b < pp := Nat.mod_lt _ pp_pos
theorem subF_lt (a b : Nat) : subF a b < pp := Nat.mod_lt _ pp_pos
theorem mulF_lt (a b : Nat) : mulF a b < pp := Nat.mod_lt _ pp_pos
theorem pp_lt {n : Nat} (h : n < pp) : n < 115792089237316195423570985008687907853269984665640564039457584007913129639936 := Nat.lt_trans h (by decide)
def powF (a e : Nat) : Nat := a ^ e % pp
theorem powF_lt (a e : Nat) : powF a e < pp := Nat.mod_lt _ pp_pos
theorem mulF_mod (a b : Nat) : mulF (a % pp) (b % pp) = mulF a b := by unfold mulF; rw [← Nat.mul_mod]
theorem mulF_modl (a b : Nat) : mulF (a % pp) b = mulF a b := by unfold mulF; rw [Nat.mod_mul_mod]
theorem mulF_modr (a b : Nat) : mulF a (b % pp) = mulF a b := by unfold mulF; rw [Nat.mul_mod_mod]
theorem mulF_pow (a e f : Nat) : mulF (powF a e) (powF a f) = powF a (e + f) := by
  unfold mulF powF
  rw [← Nat.mul_mod, ← Nat.pow_add]
theorem powF_pow (a e f : Nat) : powF (powF a e) f = powF a (e * f) := by
  unfold powF
  rw [← Nat.pow_mod, ← Nat.pow_mul]
theorem powF_mod (a e : Nat) : powF (a % pp) e = powF a e := by unfold powF; rw [← Nat.pow_mod]
theorem powF_one (a : Nat) : powF a 1 = a % pp := by unfold powF; rw [Nat.pow_one]
theorem powF_mod_self (a e : Nat) : powF a e % pp = powF a e := Nat.mod_eq_of_lt (powF_lt a e)
def sqF (a n : Nat) : Nat := if n = 0 then a else powF a (2 ^ n)
theorem sqF_zero (a : Nat) : sqF a 0 = a := rfl
theorem sqF_mod (a n : Nat) : sqF a n % pp = powF a (2 ^ n) := by
  unfold sqF
  split
  · rename_i h; subst h; exact (powF_one a).symm
  · exact powF_mod_self _ _
theorem sqF_succ (a n : Nat) : mulF (sqF a n) (sqF a n) = sqF a (n + 1) := by
  rw [← mulF_mod, sqF_mod, mulF_pow]
  unfold sqF
  rw [if_neg (by omega), Nat.pow_succ, Nat.mul_two]
theorem sqF_lt (a n : Nat) (ha : a < 115792089237316195423570985008687907853269984665640564039457584007913129639936) : sqF a n < 115792089237316195423570985008687907853269984665640564039457584007913129639936 := by
  unfold sqF
  split
  · exact ha
  · exact pp_lt (powF_lt _ _)
theorem sqF_pos (a n : Nat) (h : 0 < n) : sqF a n = powF a (2 ^ n) := by unfold sqF; rw [if_neg (by omega)]
def onF (a n : Nat) : Nat := if n = 1 then a else powF a (2 ^ n - 1)
theorem onF_mod (a n : Nat) : onF a n % pp = powF a (2 ^ n - 1) := by
  unfold onF
  split
  · rename_i h; subst h; exact (powF_one a).symm
  · exact powF_mod_self _ _
theorem onF_lt (a n : Nat) (ha : a < 115792089237316195423570985008687907853269984665640564039457584007913129639936) : onF a n < 115792089237316195423570985008687907853269984665640564039457584007913129639936 := by
  unfold onF
  split
  · exact ha
  · exact pp_lt (powF_lt _ _)
theorem onF_pos (a n : Nat) (h : n ≠ 1) : onF a n = powF a (2 ^ n - 1) := by unfold onF; rw [if_neg h]
theorem onF_half (a h : Nat) (hh : 0 < h) : mulF (sqF (onF a h) h) (onF a h) = powF a (2 ^ (2 * h) - 1) := by
  rw [← mulF_mod, sqF_mod, ← powF_mod, onF_mod, powF_pow, mulF_pow]
  congr 1
  have h1 : 0 < 2 ^ h := Nat.two_pow_pos h
  have h2 : 2 ^ (2 * h) = 2 ^ h * 2 ^ h := by rw [← Nat.pow_add]; congr 1; omega
  rw [h2]
  obtain ⟨m, hm⟩ : ∃ m, 2 ^ h = m + 1 := ⟨2 ^ h - 1, by omega⟩
  rw [hm]
  simp only [Nat.add_sub_cancel, Nat.mul_add, Nat.add_mul, Nat.mul_one, Nat.one_mul]
  omega
theorem onF_even (a n h : Nat) (hh : 0 < h) (hn : n = 2 * h) : mulF (sqF (onF a h) h) (onF a h) = onF a n := by
  rw [onF_half a h hh, onF_pos a n (by omega), hn]
theorem onF_odd (a n h : Nat) (hh : 0 < h) (hn : n = 2 * h + 1) : mulF (sqF (mulF (sqF (onF a h) h) (onF a h)) 1) a = onF a n := by
  rw [onF_half a h hh, onF_pos a n (by omega), sqF_pos _ 1 (by decide), Nat.pow_one, powF_pow, ← mulF_modr, ← powF_one a, mulF_pow, hn]
  congr 1
  have h1 : 0 < 2 ^ (2 * h) := Nat.two_pow_pos _
  rw [Nat.pow_succ]
  omega
def invF (a : Nat) : Nat := powF a (pp - 2)
theorem invF_lt (a : Nat) : invF a < pp := powF_lt _ _
theorem invF_eq (a : Nat) : mulF (sqF (onF a 250) 5) (mulF (sqF a 3) (onF a 2)) = invF a := by
  rw [onF_pos a 250 (by decide), onF_pos a 2 (by decide), sqF_pos _ 5 (by decide), sqF_pos _ 3 (by decide), powF_pow, mulF_pow, mulF_pow]
  unfold invF
  congr 1
theorem mulF_comm (a b : Nat) : mulF a b = mulF b a := by unfold mulF; rw [Nat.mul_comm]
theorem mulF_assoc (a b c : Nat) : mulF (mulF a b) c = mulF a (mulF b c) := by
  unfold mulF; rw [Nat.mod_mul_mod, Nat.mul_mod_mod, Nat.mul_assoc]
theorem mulF_one (a : Nat) : mulF a 1 = a % pp := by unfold mulF; rw [Nat.mul_one]
theorem three_pp : 3 * pp = 173688133855974293135356477513031861779904976998460846059186376011869694459847 := by decide
theorem addF_subF (a b : Nat) (hb : b < 115792089237316195423570985008687907853269984665640564039457584007913129639936) : addF (subF a b) b = a % pp := by
  have h3 := three_pp
  unfold subF addF
  have hle : b ≤ 3 * pp := by omega
  rw [Nat.mod_add_mod, Nat.add_sub_assoc hle, Nat.add_assoc, Nat.sub_add_cancel hle, Nat.mul_comm, Nat.add_mul_mod_self_left]
theorem sq_of_sum (s n : Nat) (h : (s + n) % pp = 0) : mulF s s = mulF n n := by
  obtain ⟨t, ht⟩ := Nat.dvd_of_mod_eq_zero h
  unfold mulF
  have h1 : s * s + s * n = pp * (s * t) := by rw [← Nat.mul_add, ht, Nat.mul_left_comm]
  have h2 : n * n + s * n = pp * (n * t) := by rw [← Nat.add_mul, Nat.add_comm n s, ht, Nat.mul_right_comm, Nat.mul_assoc]
  rcases Nat.le_total (s * s) (n * n) with hl | hl
  · obtain ⟨d, hd⟩ := Nat.le.dest hl
    have h3 : d = pp * (n * t) - pp * (s * t) := by omega
    have h4 : pp ∣ d := by rw [h3, ← Nat.mul_sub]; exact Nat.dvd_mul_right _ _
    obtain ⟨e, rfl⟩ := h4
    rw [← hd, Nat.add_mul_mod_self_left]
  · obtain ⟨d, hd⟩ := Nat.le.dest hl
    have h3 : d = pp * (s * t) - pp * (n * t) := by omega
    have h4 : pp ∣ d := by rw [h3, ← Nat.mul_sub]; exact Nat.dvd_mul_right _ _
    obtain ⟨e, rfl⟩ := h4
    rw [← hd, Nat.add_mul_mod_self_left]
theorem subF_zero_sq (n : Nat) (hn : n < 115792089237316195423570985008687907853269984665640564039457584007913129639936) : mulF (subF 0 n) (subF 0 n) = mulF n n := by
  apply sq_of_sum
  have h := addF_subF 0 n hn
  rw [Nat.zero_mod] at h
  exact h
theorem powF_zero_of (a e : Nat) (ha : a % pp = 0) (he : 0 < e) : powF a e = 0 := by
  rw [← powF_mod, ha]
  unfold powF
  rw [Nat.zero_pow he, Nat.zero_mod]
def tn : Nat := 19681161376707505956807079304988542015446066515923890162744021073123829784752
def hf : Nat := 28948022309329048855892746252171976963317496166410141009864396001978282409974
theorem tn_sq : mulF tn tn = pp - 1 := by decide
theorem powF_pwm (a e v : Nat) (he : e < 2 ^ 256) (h : pwm pp 256 a e = v) : powF a e = v := by
  unfold powF
  rw [← h]
  exact (pwm_ok pp 256 a e he).symm
theorem powF_mulF (a b e : Nat) : powF (mulF a b) e = mulF (powF a e) (powF b e) := by
  unfold mulF powF
  rw [← Nat.pow_mod, Nat.mul_pow, Nat.mul_mod]
theorem fermatF (a : Nat) (h : a % pp ≠ 0) : powF a (pp - 1) = 1 := pp_prime.fermat_one a fun hd => h (Nat.mod_eq_zero_of_dvd hd)
theorem invF_mul (a : Nat) (h : a % pp ≠ 0) : mulF a (invF a) = 1 := by
  unfold invF
  rw [← mulF_modl, ← powF_one a, mulF_pow]
  exact fermatF a h
theorem sq_eq (x n : Nat) (hx : x < pp) (hn : n < pp) (h : mulF x x = mulF n n) : x = n ∨ (x + n) % pp = 0 := by
  have key : ∀ x n : Nat, x < pp → n < pp → n ≤ x → mulF x x = mulF n n → x = n ∨ (x + n) % pp = 0 := by
    intro x n hx hn hle h
    obtain ⟨d, rfl⟩ := Nat.le.dest hle
    have h1 : (n + d) * (n + d) = n * n + d * (n + d + n) := by
      rw [Nat.add_mul n d, Nat.mul_add n, Nat.mul_add d (n + d) n, Nat.mul_comm d n]
      omega
    have h2 : pp ∣ d * (n + d + n) := by
      have h3 := dvd_of_mod_eq (m := pp) (a := (n + d) * (n + d)) (b := n * n) h (by rw [h1]; omega)
      rwa [h1, Nat.add_sub_cancel_left] at h3
    rcases pp_prime.dvd_mul h2 with h3 | h3
    · left
      rcases Nat.eq_zero_or_pos d with rfl | h0
      · rfl
      · have := Nat.le_of_dvd h0 h3; omega
    · exact .inr (Nat.mod_eq_zero_of_dvd h3)
  rcases Nat.le_total n x with hl | hl
  · exact key x n hx hn hl h
  · rcases key n x hn hx hl h.symm with e | e
    · exact .inl e.symm
    · right; rw [Nat.add_comm]; exact e
theorem sq_one (x : Nat) (hx : x < pp) (h : mulF x x = 1) : x = 1 ∨ x = pp - 1 := by
  have hpp : pp = 57896044618658097711785492504343953926634992332820282019728792003956564819949 := rfl
  rcases sq_eq x 1 hx (by decide) (by rw [h]; decide) with e | e
  · exact .inl e
  · right
    obtain ⟨t, ht⟩ := Nat.dvd_of_mod_eq_zero e
    rcases t with _ | _ | t
    · simp at ht
    · omega
    · have : pp * 2 ≤ pp * (t + 1 + 1) := Nat.mul_le_mul_left _ (by omega)
      omega
theorem neg_val (r : Nat) (h0 : 0 < r) (hr : r < pp) : subF 0 r = pp - r := by
  unfold subF
  have h3 := three_pp
  have e : 0 + 3 * pp - r = (pp - r) + 2 * pp := by omega
  rw [e, Nat.mul_comm 2 pp, Nat.add_mul_mod_self_left, Nat.mod_eq_of_lt (by omega)]
def rootR (a : Nat) : Nat := powF a 7237005577332262213973186563042994240829374041602535252466099000494570602494
def rootT (a : Nat) : Nat := if mulF (rootR a) (rootR a) = a % pp then rootR a else mulF (rootR a) tn
def rootF (a : Nat) : Nat × Bool := if mulF (rootT a) (rootT a) = a % pp then (if rootT a % 2 = 1 then subF 0 (rootT a) else rootT a, true) else (0, false)
theorem rootR_lt (a : Nat) : rootR a < pp := powF_lt _ _
theorem rootT_lt (a : Nat) : rootT a < pp := by unfold rootT; split; exact rootR_lt a; exact mulF_lt _ _
theorem rootF_lt (a : Nat) : (rootF a).1 < pp := by
  unfold rootF
  split
  · show (if rootT a % 2 = 1 then subF 0 (rootT a) else rootT a) < pp
    split
    · exact subF_lt _ _
    · exact rootT_lt a
  · exact pp_pos
theorem rootF_mod (a : Nat) : rootF (a % pp) = rootF a := by
  have h : rootT (a % pp) = rootT a := by unfold rootT rootR; rw [powF_mod, Nat.mod_mod]
  unfold rootF
  rw [h, Nat.mod_mod]
theorem rootF_sq (a : Nat) (h : (rootF a).2 = true) : mulF (rootF a).1 (rootF a).1 = a % pp := by
  unfold rootF at h ⊢
  split
  · rename_i h1
    show mulF (if rootT a % 2 = 1 then subF 0 (rootT a) else rootT a) (if rootT a % 2 = 1 then subF 0 (rootT a) else rootT a) = a % pp
    split
    · rw [subF_zero_sq _ (pp_lt (rootT_lt a))]; exact h1
    · exact h1
  · rename_i h1
    rw [if_neg h1] at h
    exact absurd h (by decide)
theorem rootF_even (a : Nat) : (rootF a).1 % 2 = 0 := by
  have hpp : pp = 57896044618658097711785492504343953926634992332820282019728792003956564819949 := rfl
  unfold rootF
  split
  · show (if rootT a % 2 = 1 then subF 0 (rootT a) else rootT a) % 2 = 0
    have hl := rootT_lt a
    split
    · rename_i h
      rw [neg_val _ (by omega) hl]
      omega
    · omega
  · rfl
theorem rootF_zero (a : Nat) (h : a % pp = 0) : rootF a = (0, true) := by
  have h1 : rootR a = 0 := powF_zero_of a _ h (by decide)
  have h2 : rootT a = 0 := by unfold rootT; rw [h1, if_pos (by rw [h]; rfl)]
  unfold rootF
  rw [h2, if_pos (by rw [h]; rfl)]
  rfl
theorem rootF_has (a : Nat) (h : a % pp ≠ 0) : (rootF a).2 = true ↔ powF a hf = 1 := by
  constructor
  · intro h1
    have h2 := rootF_sq a h1
    have h3 : (rootF a).1 % pp ≠ 0 := by
      intro h0
      rw [← mulF_modl, h0] at h2
      apply h
      rw [← h2]
      unfold mulF
      rw [Nat.zero_mul, Nat.zero_mod]
    rw [← powF_mod, ← h2, powF_mulF, mulF_pow]
    exact fermatF _ h3
  · intro h1
    have hr : mulF (rootR a) (rootR a) = mulF (powF a 14474011154664524427946373126085988481658748083205070504932198000989141204987) a := by
      unfold rootR
      rw [mulF_pow, ← mulF_modr, ← powF_one a, mulF_pow]
    have hs := sq_one (powF a 14474011154664524427946373126085988481658748083205070504932198000989141204987) (powF_lt _ _) (by rw [mulF_pow]; exact h1)
    have ht : mulF (rootT a) (rootT a) = a % pp := by
      unfold rootT
      split
      · assumption
      · rename_i hn
        rcases hs with e | e
        · exact absurd (by rw [hr, e]; unfold mulF; rw [Nat.one_mul]) hn
        · have e2 : mulF (mulF (rootR a) tn) (mulF (rootR a) tn) = mulF (mulF (rootR a) (rootR a)) (mulF tn tn) := by
            unfold mulF
            rw [← Nat.mul_mod, ← Nat.mul_mod, Nat.mul_mul_mul_comm]
          rw [e2, hr, e, tn_sq, mulF_comm (pp - 1) a, mulF_assoc, show mulF (pp - 1) (pp - 1) = 1 by decide, mulF_one]
    unfold rootF
    rw [if_pos ht]
theorem rootF_square (a : Nat) : (rootF (mulF a a)).2 = true := by
  by_cases h : mulF a a % pp = 0
  · rw [rootF_zero _ h]
  · rw [rootF_has _ h]
    have ha : a % pp ≠ 0 := by
      intro h0
      apply h
      rw [← mulF_modl, h0]
      unfold mulF
      rw [Nat.zero_mul, Nat.zero_mod, Nat.zero_mod]
    rw [powF_mulF, mulF_pow]
    exact fermatF a ha
instance ppNZ : NeZero pp := ⟨by decide⟩
abbrev K := Fin pp
def toK (n : Nat) : K := Fin.ofNat pp n
theorem toK_val (n : Nat) : (toK n).val = n % pp := rfl
theorem toK_of (x : K) : toK x.val = x := by
  apply Fin.ext
  rw [toK_val]
  exact Nat.mod_eq_of_lt x.isLt
theorem toK_mod (n : Nat) : toK (n % pp) = toK n := by apply Fin.ext; rw [toK_val, toK_val, Nat.mod_mod]
theorem toK_inj {a b : Nat} (ha : a < pp) (hb : b < pp) (h : toK a = toK b) : a = b := by
  have h2 := congrArg Fin.val h
  rw [toK_val, toK_val, Nat.mod_eq_of_lt ha, Nat.mod_eq_of_lt hb] at h2
  exact h2
theorem toK_add (a b : Nat) : toK (addF a b) = toK a + toK b := by
  apply Fin.ext
  rw [toK_val, Fin.val_add, toK_val, toK_val]
  unfold addF
  rw [Nat.mod_mod, ← Nat.add_mod]
theorem toK_mul (a b : Nat) : toK (mulF a b) = toK a * toK b := by
  apply Fin.ext
  rw [toK_val, Fin.val_mul, toK_val, toK_val]
  unfold mulF
  rw [Nat.mod_mod, ← Nat.mul_mod]
theorem toK_zero : toK 0 = 0 := by decide
theorem toK_one : toK 1 = 1 := by decide
theorem toK_eq_zero {a : Nat} : toK a = 0 ↔ a % pp = 0 := by
  constructor
  · intro h
    have h2 := congrArg Fin.val h
    rw [toK_val] at h2
    exact h2
  · intro h
    apply Fin.ext
    rw [toK_val, h]
    rfl
theorem toK_sub (a b : Nat) (hb : b < 115792089237316195423570985008687907853269984665640564039457584007913129639936) : toK (subF a b) = toK a - toK b := by
  have h := addF_subF a b hb
  have h2 := congrArg toK h
  rw [toK_add, toK_mod] at h2
  rw [← h2]
  generalize toK (subF a b) = x
  generalize toK b = y
  grind
def kinv (x : K) : K := toK (invF x.val)
theorem toK_inv (a : Nat) : toK (invF a) = kinv (toK a) := by
  unfold kinv
  rw [toK_val]
  unfold invF
  rw [powF_mod]
theorem k_mul_inv {x : K} (h : x ≠ 0) : x * kinv x = 1 := by
  have h2 : x.val % pp ≠ 0 := by
    intro h0
    apply h
    rw [← toK_of x]
    exact toK_eq_zero.2 h0
  have h3 := congrArg toK (invF_mul x.val h2)
  rw [toK_mul, toK_of, toK_one] at h3
  exact h3
theorem k_mul_zero {x y : K} (h : x * y = 0) : x = 0 ∨ y = 0 := by
  by_cases hx : x = 0
  · exact .inl hx
  · have h1 := k_mul_inv hx
    refine .inr ?_
    have h2 : y = kinv x * (x * y) := by grind
    rw [h2, h]
    grind
theorem k_mul_ne {x y : K} (hx : x ≠ 0) (hy : y ≠ 0) : x * y ≠ 0 := fun h => (k_mul_zero h).elim hx hy
theorem k_one_ne : (1 : K) ≠ 0 := by decide
theorem k_cancel {x y z : K} (hz : z ≠ 0) (h : x * z = y * z) : x = y := by
  have h1 := k_mul_inv hz
  have h2 : x = x * z * kinv z := by grind
  have h3 : y = y * z * kinv z := by grind
  rw [h2, h3, h]
theorem k_div {x y z : K} (hz : z ≠ 0) : x = y * kinv z ↔ x * z = y := by
  have h1 := k_mul_inv hz
  constructor
  · rintro rfl
    grind
  · intro h
    rw [← h]
    grind
theorem k_nonsq {n : Nat} (h : (rootF n).2 = false) (z : K) : z * z ≠ toK n := by
  intro e
  have h1 : toK (mulF z.val z.val) = toK n := by rw [toK_mul, toK_of]; exact e
  have h2 := rootF_square z.val
  have h3 : mulF z.val z.val % pp = n % pp := by
    have h4 := congrArg Fin.val h1
    rw [toK_val, toK_val] at h4
    exact h4
  rw [← rootF_mod, h3, rootF_mod, h] at h2
  exact absurd h2 (by decide)
def ki : K := toK tn
theorem ki_sq : ki * ki = -1 := by
  have h := congrArg toK tn_sq
  rw [toK_mul] at h
  unfold ki
  rw [h]
  decide
set_option maxHeartbeats 2000000
def dN : Nat := mulF (subF 0 121665) (invF 121666)
def dK : K := toK dN
theorem dN_val : dN = 37095705934669439343138083508754565189542113879843219016388785533085940283555 := by
  unfold dN invF
  rw [powF_pwm 121666 (pp - 2) _ (by decide) rfl]
  decide +kernel
theorem dN_root : (rootF dN).2 = false := by
  rw [dN_val]
  cases h : (rootF 37095705934669439343138083508754565189542113879843219016388785533085940283555).2 with
  | false => rfl
  | true =>
    exfalso
    have h1 := (rootF_has _ (by decide)).1 h
    rw [powF_pwm _ hf _ (by decide) rfl] at h1
    exact absurd h1 (by decide +kernel)
theorem d_nonsq (z : K) : z * z ≠ dK := k_nonsq dN_root z
theorem assocX_id (dK x1 y1 x2 y2 x3 y3 : K) : ((x1*y2+y1*x2)*(1-(dK*x1*x2*y1*y2))*y3+(y1*y2+x1*x2)*(1+(dK*x1*x2*y1*y2))*x3)*((1-(dK*x2*x3*y2*y3)*(dK*x2*x3*y2*y3))+dK*x1*y1*(x2*y3+y2*x3)*(y2*y3+x2*x3))-(x1*(y2*y3+x2*x3)*(1+(dK*x2*x3*y2*y3))+y1*(x2*y3+y2*x3)*(1-(dK*x2*x3*y2*y3)))*((1-(dK*x1*x2*y1*y2)*(dK*x1*x2*y1*y2))+dK*(x1*y2+y1*x2)*(y1*y2+x1*x2)*x3*y3) =
    (-dK*dK*x1*x2*x2*x2*x2*x3*x3*y2*y2*y2*y3 - dK*dK*x1*x2*x2*x2*x3*y2*y2*y2*y2*y3*y3 + dK*dK*x2*x2*x2*x2*x3*y1*y2*y2*y2*y3*y3 + dK*dK*x2*x2*x2*x3*x3*y1*y2*y2*y2*y2*y3 - dK*x1*x2*x2*x2*x2*x3*x3*y2*y3 - dK*x1*x2*x2*x2*x3*x3*x3*y2*y2 - dK*x1*x2*x2*x2*x3*y2*y2 + dK*x1*x2*x2*y2*y2*y2*y3*y3*y3 - dK*x1*x2*x2*y2*y2*y2*y3 + dK*x1*x2*x3*y2*y2*y2*y2*y3*y3 + dK*x2*x2*x2*x2*x3*y1*y2*y3*y3 + dK*x2*x2*x2*y1*y2*y2*y3*y3*y3 - dK*x2*x2*x2*y1*y2*y2*y3 - dK*x2*x2*x3*x3*x3*y1*y2*y2*y2 - dK*x2*x2*x3*y1*y2*y2*y2 - dK*x2*x3*x3*y1*y2*y2*y2*y2*y3)*(y1*y1-x1*x1-1-dK*x1*x1*y1*y1) + (dK*dK*x1*x1*x2*x2*x3*x3*x3*y1*y2*y3*y3 - dK*dK*x1*x1*x2*x3*x3*y1*y2*y2*y3*y3*y3 - dK*dK*x1*x2*x2*x3*x3*y1*y1*y2*y3*y3*y3 + dK*dK*x1*x2*x3*x3*x3*y1*y1*y2*y2*y3*y3 + dK*x1*x1*x1*x2*x2*x3*x3*y2*y3 + dK*x1*x1*x1*x2*x3*x3*x3*y3*y3 + dK*x1*x1*x1*x2*x3*y2*y2*y3*y3 + dK*x1*x1*x1*x3*x3*y2*y3*y3*y3 - dK*x1*x1*x2*x2*x3*y1*y2*y3*y3 - dK*x1*x1*x2*x3*x3*y1*y2*y2*y3 + dK*x1*x1*x2*x3*x3*y1*y3*y3*y3 + dK*x1*x1*x3*x3*x3*y1*y2*y3*y3 - dK*x1*x2*x2*x3*x3*y1*y1*y2*y3 + dK*x1*x2*x2*x3*x3*y2*y3 - dK*x1*x2*x3*x3*x3*y1*y1*y3*y3 + dK*x1*x2*x3*x3*x3*y3*y3 - dK*x1*x2*x3*y1*y1*y2*y2*y3*y3 + dK*x1*x2*x3*y2*y2*y3*y3 - dK*x1*x3*x3*y1*y1*y2*y3*y3*y3 + dK*x1*x3*x3*y2*y3*y3*y3 + dK*x2*x2*x3*y1*y1*y1*y2*y3*y3 - dK*x2*x2*x3*y1*y2*y3*y3 + dK*x2*x3*x3*y1*y1*y1*y2*y2*y3 - dK*x2*x3*x3*y1*y1*y1*y3*y3*y3 - dK*x2*x3*x3*y1*y2*y2*y3 + dK*x2*x3*x3*y1*y3*y3*y3 - dK*x3*x3*x3*y1*y1*y1*y2*y3*y3 + dK*x3*x3*x3*y1*y2*y3*y3 + x1*x1*x1*x2*x3*x3*x3 - x1*x1*x1*x2*x3*y3*y3 + x1*x1*x1*x2*x3 + x1*x1*x1*x3*x3*y2*y3 - x1*x1*x1*y2*y3*y3*y3 + x1*x1*x1*y2*y3 + x1*x1*x2*x3*x3*y1*y3 - x1*x1*x2*y1*y3*y3*y3 + x1*x1*x2*y1*y3 + x1*x1*x3*x3*x3*y1*y2 - x1*x1*x3*y1*y2*y3*y3 + x1*x1*x3*y1*y2 - x1*x2*x3*x3*x3*y1*y1 + x1*x2*x3*x3*x3 + x1*x2*x3*y1*y1*y3*y3 - x1*x2*x3*y1*y1 - x1*x2*x3*y3*y3 + x1*x2*x3 - x1*x3*x3*y1*y1*y2*y3 + x1*x3*x3*y2*y3 + x1*y1*y1*y2*y3*y3*y3 - x1*y1*y1*y2*y3 - x1*y2*y3*y3*y3 + x1*y2*y3 - x2*x3*x3*y1*y1*y1*y3 + x2*x3*x3*y1*y3 + x2*y1*y1*y1*y3*y3*y3 - x2*y1*y1*y1*y3 - x2*y1*y3*y3*y3 + x2*y1*y3 - x3*x3*x3*y1*y1*y1*y2 + x3*x3*x3*y1*y2 + x3*y1*y1*y1*y2*y3*y3 - x3*y1*y1*y1*y2 - x3*y1*y2*y3*y3 + x3*y1*y2)*(y2*y2-x2*x2-1-dK*x2*x2*y2*y2) + (-dK*x1*x1*x2*x2*x3*y1*y2 + dK*x1*x1*x2*y1*y2*y2*y3 + dK*x1*x2*x2*y1*y1*y2*y3 - dK*x1*x2*x3*y1*y1*y2*y2 - x1*x1*x1*x2*x2*x2*x3 - x1*x1*x1*x2*x2*y2*y3 + x1*x1*x1*x2*x3*y2*y2 - x1*x1*x1*x2*x3 + x1*x1*x1*y2*y2*y2*y3 - x1*x1*x1*y2*y3 - x1*x1*x2*x2*x2*y1*y3 - x1*x1*x2*x2*x3*y1*y2 + x1*x1*x2*y1*y2*y2*y3 - x1*x1*x2*y1*y3 + x1*x1*x3*y1*y2*y2*y2 - x1*x1*x3*y1*y2 + x1*x2*x2*x2*x3*y1*y1 - x1*x2*x2*x2*x3 + x1*x2*x2*y1*y1*y2*y3 - x1*x2*x2*y2*y3 - x1*x2*x3*y1*y1*y2*y2 + x1*x2*x3*y1*y1 + x1*x2*x3*y2*y2 - x1*x2*x3 - x1*y1*y1*y2*y2*y2*y3 + x1*y1*y1*y2*y3 + x1*y2*y2*y2*y3 - x1*y2*y3 + x2*x2*x2*y1*y1*y1*y3 - x2*x2*x2*y1*y3 + x2*x2*x3*y1*y1*y1*y2 - x2*x2*x3*y1*y2 - x2*y1*y1*y1*y2*y2*y3 + x2*y1*y1*y1*y3 + x2*y1*y2*y2*y3 - x2*y1*y3 - x3*y1*y1*y1*y2*y2*y2 + x3*y1*y1*y1*y2 + x3*y1*y2*y2*y2 - x3*y1*y2)*(y3*y3-x3*x3-1-dK*x3*x3*y3*y3) := by grind
theorem assocY_id (dK x1 y1 x2 y2 x3 y3 : K) : ((y1*y2+x1*x2)*(1+(dK*x1*x2*y1*y2))*y3+(x1*y2+y1*x2)*(1-(dK*x1*x2*y1*y2))*x3)*((1-(dK*x2*x3*y2*y3)*(dK*x2*x3*y2*y3))-dK*x1*y1*(x2*y3+y2*x3)*(y2*y3+x2*x3))-(y1*(y2*y3+x2*x3)*(1+(dK*x2*x3*y2*y3))+x1*(x2*y3+y2*x3)*(1-(dK*x2*x3*y2*y3)))*((1-(dK*x1*x2*y1*y2)*(dK*x1*x2*y1*y2))-dK*(x1*y2+y1*x2)*(y1*y2+x1*x2)*x3*y3) =
    (dK*dK*x1*x2*x2*x2*x2*x3*y2*y2*y2*y3*y3 + dK*dK*x1*x2*x2*x2*x3*x3*y2*y2*y2*y2*y3 - dK*dK*x2*x2*x2*x2*x3*x3*y1*y2*y2*y2*y3 - dK*dK*x2*x2*x2*x3*y1*y2*y2*y2*y2*y3*y3 + dK*x1*x2*x2*x2*x2*x3*y2*y3*y3 + dK*x1*x2*x2*x2*y2*y2*y3*y3*y3 - dK*x1*x2*x2*x2*y2*y2*y3 - dK*x1*x2*x2*x3*x3*x3*y2*y2*y2 - dK*x1*x2*x2*x3*y2*y2*y2 - dK*x1*x2*x3*x3*y2*y2*y2*y2*y3 - dK*x2*x2*x2*x2*x3*x3*y1*y2*y3 - dK*x2*x2*x2*x3*x3*x3*y1*y2*y2 - dK*x2*x2*x2*x3*y1*y2*y2 + dK*x2*x2*y1*y2*y2*y2*y3*y3*y3 - dK*x2*x2*y1*y2*y2*y2*y3 + dK*x2*x3*y1*y2*y2*y2*y2*y3*y3)*(y1*y1-x1*x1-1-dK*x1*x1*y1*y1) + (dK*dK*x1*x1*x2*x2*x3*x3*y1*y2*y3*y3*y3 - dK*dK*x1*x1*x2*x3*x3*x3*y1*y2*y2*y3*y3 - dK*dK*x1*x2*x2*x3*x3*x3*y1*y1*y2*y3*y3 + dK*dK*x1*x2*x3*x3*y1*y1*y2*y2*y3*y3*y3 - dK*x1*x1*x1*x2*x2*x3*y2*y3*y3 - dK*x1*x1*x1*x2*x3*x3*y2*y2*y3 + dK*x1*x1*x1*x2*x3*x3*y3*y3*y3 + dK*x1*x1*x1*x3*x3*x3*y2*y3*y3 + dK*x1*x1*x2*x2*x3*x3*y1*y2*y3 + dK*x1*x1*x2*x3*x3*x3*y1*y3*y3 + dK*x1*x1*x2*x3*y1*y2*y2*y3*y3 + dK*x1*x1*x3*x3*y1*y2*y3*y3*y3 + dK*x1*x2*x2*x3*y1*y1*y2*y3*y3 - dK*x1*x2*x2*x3*y2*y3*y3 + dK*x1*x2*x3*x3*y1*y1*y2*y2*y3 - dK*x1*x2*x3*x3*y1*y1*y3*y3*y3 - dK*x1*x2*x3*x3*y2*y2*y3 + dK*x1*x2*x3*x3*y3*y3*y3 - dK*x1*x3*x3*x3*y1*y1*y2*y3*y3 + dK*x1*x3*x3*x3*y2*y3*y3 - dK*x2*x2*x3*x3*y1*y1*y1*y2*y3 + dK*x2*x2*x3*x3*y1*y2*y3 - dK*x2*x3*x3*x3*y1*y1*y1*y3*y3 + dK*x2*x3*x3*x3*y1*y3*y3 - dK*x2*x3*y1*y1*y1*y2*y2*y3*y3 + dK*x2*x3*y1*y2*y2*y3*y3 - dK*x3*x3*y1*y1*y1*y2*y3*y3*y3 + dK*x3*x3*y1*y2*y3*y3*y3 + x1*x1*x1*x2*x3*x3*y3 - x1*x1*x1*x2*y3*y3*y3 + x1*x1*x1*x2*y3 + x1*x1*x1*x3*x3*x3*y2 - x1*x1*x1*x3*y2*y3*y3 + x1*x1*x1*x3*y2 + x1*x1*x2*x3*x3*x3*y1 - x1*x1*x2*x3*y1*y3*y3 + x1*x1*x2*x3*y1 + x1*x1*x3*x3*y1*y2*y3 - x1*x1*y1*y2*y3*y3*y3 + x1*x1*y1*y2*y3 - x1*x2*x3*x3*y1*y1*y3 + x1*x2*x3*x3*y3 + x1*x2*y1*y1*y3*y3*y3 - x1*x2*y1*y1*y3 - x1*x2*y3*y3*y3 + x1*x2*y3 - x1*x3*x3*x3*y1*y1*y2 + x1*x3*x3*x3*y2 + x1*x3*y1*y1*y2*y3*y3 - x1*x3*y1*y1*y2 - x1*x3*y2*y3*y3 + x1*x3*y2 - x2*x3*x3*x3*y1*y1*y1 + x2*x3*x3*x3*y1 + x2*x3*y1*y1*y1*y3*y3 - x2*x3*y1*y1*y1 - x2*x3*y1*y3*y3 + x2*x3*y1 - x3*x3*y1*y1*y1*y2*y3 + x3*x3*y1*y2*y3 + y1*y1*y1*y2*y3*y3*y3 - y1*y1*y1*y2*y3 - y1*y2*y3*y3*y3 + y1*y2*y3)*(y2*y2-x2*x2-1-dK*x2*x2*y2*y2) + (-dK*x1*x1*x2*x2*y1*y2*y3 + dK*x1*x1*x2*x3*y1*y2*y2 + dK*x1*x2*x2*x3*y1*y1*y2 - dK*x1*x2*y1*y1*y2*y2*y3 - x1*x1*x1*x2*x2*x2*y3 - x1*x1*x1*x2*x2*x3*y2 + x1*x1*x1*x2*y2*y2*y3 - x1*x1*x1*x2*y3 + x1*x1*x1*x3*y2*y2*y2 - x1*x1*x1*x3*y2 - x1*x1*x2*x2*x2*x3*y1 - x1*x1*x2*x2*y1*y2*y3 + x1*x1*x2*x3*y1*y2*y2 - x1*x1*x2*x3*y1 + x1*x1*y1*y2*y2*y2*y3 - x1*x1*y1*y2*y3 + x1*x2*x2*x2*y1*y1*y3 - x1*x2*x2*x2*y3 + x1*x2*x2*x3*y1*y1*y2 - x1*x2*x2*x3*y2 - x1*x2*y1*y1*y2*y2*y3 + x1*x2*y1*y1*y3 + x1*x2*y2*y2*y3 - x1*x2*y3 - x1*x3*y1*y1*y2*y2*y2 + x1*x3*y1*y1*y2 + x1*x3*y2*y2*y2 - x1*x3*y2 + x2*x2*x2*x3*y1*y1*y1 - x2*x2*x2*x3*y1 + x2*x2*y1*y1*y1*y2*y3 - x2*x2*y1*y2*y3 - x2*x3*y1*y1*y1*y2*y2 + x2*x3*y1*y1*y1 + x2*x3*y1*y2*y2 - x2*x3*y1 - y1*y1*y1*y2*y2*y2*y3 + y1*y1*y1*y2*y3 + y1*y2*y2*y2*y3 - y1*y2*y3)*(y3*y3-x3*x3-1-dK*x3*x3*y3*y3) := by grind
theorem close_id (dK x1 y1 x2 y2 : K) : (y1*y2+x1*x2)*(y1*y2+x1*x2)*((1+(dK*x1*x2*y1*y2))*(1+(dK*x1*x2*y1*y2)))-(x1*y2+y1*x2)*(x1*y2+y1*x2)*((1-(dK*x1*x2*y1*y2))*(1-(dK*x1*x2*y1*y2)))-(1-(dK*x1*x2*y1*y2)*(dK*x1*x2*y1*y2))*(1-(dK*x1*x2*y1*y2)*(dK*x1*x2*y1*y2))-dK*((x1*y2+y1*x2)*(x1*y2+y1*x2))*((y1*y2+x1*x2)*(y1*y2+x1*x2)) =
    (dK*dK*dK*x1*x1*x2*x2*x2*x2*y1*y1*y2*y2*y2*y2 - dK*dK*x1*x1*x2*x2*x2*x2*y2*y2*y2*y2 + dK*dK*x2*x2*x2*x2*y1*y1*y2*y2*y2*y2 - dK*dK*x2*x2*x2*x2*y2*y2*y2*y2 - dK*x1*x1*x2*x2*x2*x2*y2*y2 + dK*x1*x1*x2*x2*y2*y2*y2*y2 + dK*x2*x2*x2*x2*y1*y1*y2*y2 - 2*dK*x2*x2*x2*x2*y2*y2*y2*y2 - dK*x2*x2*y1*y1*y2*y2*y2*y2 - 2*dK*x2*x2*y2*y2 - 2*x2*x2*x2*x2*y2*y2 + x2*x2*x2*x2 + 2*x2*x2*y2*y2*y2*y2 - 4*x2*x2*y2*y2 + y2*y2*y2*y2)*(y1*y1-x1*x1-1-dK*x1*x1*y1*y1) + (dK*x1*x1*x1*x1*x2*x2*y2*y2 + 2*dK*x1*x1*x2*x2*y2*y2 + dK*x2*x2*y1*y1*y1*y1*y2*y2 - 2*dK*x2*x2*y1*y1*y2*y2 + dK*x2*x2*y2*y2 + 2*x1*x1*x2*x2*y2*y2 - x1*x1*x2*x2 + x1*x1*y2*y2 - 2*x2*x2*y1*y1*y2*y2 + x2*x2*y1*y1 + 2*x2*x2*y2*y2 - x2*x2 - y1*y1*y2*y2 + y2*y2 + 1)*(y2*y2-x2*x2-1-dK*x2*x2*y2*y2) := by grind
end Go.Proofs.YtdajmekliodmcaaGreatDoor.P8
