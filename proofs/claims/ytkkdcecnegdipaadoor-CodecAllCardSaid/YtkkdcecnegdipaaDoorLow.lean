/- What goes through bits, the lowest first, in plain numbers: the digits of one number to one base and to another. -/
import Derived.Test.YtkkdcecnegdipaaDoorBits
namespace Go.Proofs.YtkkdcecnegdipaaDoor
set_option linter.unusedVariables false
set_option linter.unusedSimpArgs false

/-- The number that digits of t bits are, the lowest first. -/
def dv (t : Nat) : List Nat → Nat
  | [] => 0
  | d :: l => d + 2 ^ t * dv t l
theorem dv_append (t : Nat) : ∀ l m : List Nat, dv t (l ++ m) = dv t l + 2 ^ (t * l.length) * dv t m
  | [], m => by simp [dv]
  | d :: l, m => by
    show d + 2 ^ t * dv t (l ++ m) = d + 2 ^ t * dv t l + 2 ^ (t * (l.length + 1)) * dv t m
    have e : 2 ^ (t * (l.length + 1)) * dv t m = 2 ^ t * (2 ^ (t * l.length) * dv t m) := by rw [Nat.mul_succ, Nat.pow_add, Nat.mul_comm (2 ^ (t * l.length)), Nat.mul_assoc]
    rw [dv_append t l m, Nat.mul_add, e]
    omega
theorem dv_snoc (t : Nat) (l : List Nat) (x : Nat) : dv t (l ++ [x]) = dv t l + 2 ^ (t * l.length) * x := by
  rw [dv_append]; simp [dv]
/-- The digits that loEmit tells, and what is left. -/
theorem dv_emit (t h : Nat) : ∀ k, dv t ((List.range k).map fun i => h / 2 ^ (t * i) % 2 ^ t) + 2 ^ (t * k) * (h / 2 ^ (t * k)) = h
  | 0 => by simp [dv]
  | k + 1 => by
    have ih := dv_emit t h k
    rw [List.range_succ, List.map_append, List.map_singleton, dv_snoc]
    rw [List.length_map, List.length_range, Nat.mul_succ t k, Nat.pow_add]
    have h2 : h / (2 ^ (t * k) * 2 ^ t) = h / 2 ^ (t * k) / 2 ^ t := (Nat.div_div_eq_div_mul _ _ _).symm
    rw [h2]
    have h3 := Nat.mod_add_div (h / 2 ^ (t * k)) (2 ^ t)
    rw [Nat.mul_assoc, Nat.add_assoc, ← Nat.mul_add, h3]
    exact ih
structure LoInv (f t : Nat) (l : List Nat) (s : Nat × Nat × List Nat) : Prop where
  h : s.1 < 2 ^ s.2.1
  n : s.2.1 < t
  len : t * s.2.2.length + s.2.1 = f * l.length
  val : dv t s.2.2 + 2 ^ (t * s.2.2.length) * s.1 = dv f l
  lt : ∀ x ∈ s.2.2, x < 2 ^ t
theorem or_shift (h n x : Nat) (hh : h < 2 ^ n) (hn : x * 2 ^ n < 18446744073709551616) : h ||| x * 2 ^ n % 18446744073709551616 = h + 2 ^ n * x := by
  rw [Nat.mod_eq_of_lt hn, Nat.or_comm, Nat.mul_comm x, ← Nat.two_pow_add_eq_or_of_lt hh]
  omega
theorem LoInv.step {f t : Nat} {l : List Nat} {s : Nat × Nat × List Nat} (hs : LoInv f t l s) (x : Nat) (hx : x < 2 ^ f) (ht8 : t ≤ 8) (hf8 : f ≤ 8) : LoInv f t (l ++ [x]) (loStep f t s x) := by
  obtain ⟨h, n, out⟩ := s
  obtain ⟨h1, h2, h3, h4, h5⟩ := hs
  simp only at h1 h2 h3 h4 h5
  have hb : x * 2 ^ n < 18446744073709551616 := by
    have e1 : x * 2 ^ n < 2 ^ f * 2 ^ n := Nat.mul_lt_mul_of_pos_right hx (Nat.two_pow_pos n)
    rw [← Nat.pow_add] at e1
    exact Nat.lt_of_lt_of_le e1 (Nat.pow_le_pow_right (by decide) (by omega : f + n ≤ 64))
  have hor := or_shift h n x h1 hb
  obtain ⟨q, hq⟩ : ∃ q, q = h + 2 ^ n * x := ⟨_, rfl⟩
  have hql : q < 2 ^ (n + f) := by
    rw [hq, Nat.pow_add]
    have e1 : 2 ^ n * (x + 1) ≤ 2 ^ n * 2 ^ f := Nat.mul_le_mul_left _ hx
    rw [Nat.mul_succ] at e1
    omega
  have hm := Nat.div_add_mod (n + f) t
  have ht : 0 < t := by omega
  unfold loStep
  simp only [hor, ← hq]
  refine ⟨?_, Nat.mod_lt _ ht, ?_, ?_, ?_⟩
  · show q / 2 ^ (t * ((n + f) / t)) < 2 ^ ((n + f) % t)
    apply Nat.div_lt_of_lt_mul
    rw [← Nat.pow_add, hm]
    exact hql
  · show t * (out ++ loEmit t q (n + f)).length + (n + f) % t = f * (l ++ [x]).length
    rw [List.length_append, loEmit_length, List.length_append, List.length_singleton, Nat.mul_add, Nat.mul_add, Nat.mul_one]
    omega
  · show dv t (out ++ loEmit t q (n + f)) + 2 ^ (t * (out ++ loEmit t q (n + f)).length) * (q / 2 ^ (t * ((n + f) / t))) = dv f (l ++ [x])
    rw [dv_append, dv_snoc, List.length_append, loEmit_length, Nat.mul_add, Nat.pow_add, Nat.mul_assoc, Nat.add_assoc, ← Nat.mul_add]
    have e := dv_emit t q ((n + f) / t)
    unfold loEmit
    rw [e, hq, Nat.mul_add, ← Nat.add_assoc, h4, ← Nat.mul_assoc, ← Nat.pow_add, h3]
  · intro y hy
    rcases List.mem_append.1 hy with h | h
    · exact h5 y h
    · obtain ⟨i, -, rfl⟩ := List.mem_map.1 h
      exact Nat.mod_lt _ (Nat.two_pow_pos t)
theorem lo_inv (f t : Nat) (ht1 : 1 ≤ t) (ht8 : t ≤ 8) (hf8 : f ≤ 8) (l : List Nat) (hl : ∀ x ∈ l, x < 2 ^ f) : LoInv f t l (loRun f t l) := by
  have key : ∀ (m l : List Nat) (s : Nat × Nat × List Nat), LoInv f t l s → (∀ x ∈ m, x < 2 ^ f) → LoInv f t (l ++ m) (m.foldl (loStep f t) s) := by
    intro m
    induction m with
    | nil => intro l s hs _; simpa using hs
    | cons x m ih =>
      intro l s hs hm
      have := ih (l ++ [x]) _ (hs.step x (hm x (by simp)) ht8 hf8) (fun y hy => hm y (by simp [hy]))
      simpa using this
  have := key l [] (0, 0, []) ⟨by simp, by show 0 < t; omega, by simp, by simp [dv], by simp⟩ hl
  simpa [loRun] using this
/-- What is told in the end: digits of the one number, as many as are needed. -/
theorem lo_all (f t : Nat) (ht1 : 1 ≤ t) (ht8 : t ≤ 8) (hf8 : f ≤ 8) (l : List Nat) (hl : ∀ x ∈ l, x < 2 ^ f) :
    dv t (loAll f t l) = dv f l ∧ (loAll f t l).length = (f * l.length + (t - 1)) / t ∧ ∀ x ∈ loAll f t l, x < 2 ^ t := by
  obtain ⟨h1, h2, h3, h4, h5⟩ := lo_inv f t ht1 ht8 hf8 l hl
  unfold loAll
  obtain ⟨h, n, out⟩ : ∃ s, s = loRun f t l := ⟨_, rfl⟩
  generalize loRun f t l = s at *
  obtain ⟨h, n, out⟩ := s
  simp only at h1 h2 h3 h4 h5
  show dv t (out ++ if 0 < n then [h % 256] else []) = dv f l ∧ (out ++ if 0 < n then [h % 256] else []).length = (f * l.length + (t - 1)) / t ∧ ∀ x ∈ (out ++ if 0 < n then [h % 256] else []), x < 2 ^ t
  by_cases hn : 0 < n
  · have hp : 2 ^ n ≤ 2 ^ 8 := Nat.pow_le_pow_right (by decide) (by omega)
    have hp2 : 2 ^ n ≤ 2 ^ t := Nat.pow_le_pow_right (by decide) (by omega)
    have hm : h % 256 = h := Nat.mod_eq_of_lt (by omega)
    rw [if_pos hn, hm]
    refine ⟨by rw [dv_snoc]; exact h4, ?_, ?_⟩
    · rw [List.length_append, List.length_singleton, ← h3]
      symm
      apply Nat.div_eq_of_lt_le
      · rw [Nat.mul_comm, Nat.mul_add]; omega
      · have e : (out.length + 1 + 1) * t = t * out.length + t + t := by rw [Nat.mul_comm, Nat.mul_succ, Nat.mul_succ]
        rw [e]; omega
    · intro x hx
      rcases List.mem_append.1 hx with h6 | h6
      · exact h5 x h6
      · simp at h6; rw [h6]; omega
  · have hn0 : n = 0 := by omega
    subst hn0
    have hh : h = 0 := by simpa using h1
    subst hh
    rw [if_neg hn, List.append_nil]
    refine ⟨by simpa using h4, ?_, h5⟩
    rw [← h3]
    symm
    apply Nat.div_eq_of_lt_le
    · rw [Nat.mul_comm]; omega
    · have e : (out.length + 1) * t = t * out.length + t := by rw [Nat.mul_comm, Nat.mul_succ]
      rw [e]; omega
theorem dv_num : ∀ l : List UInt8, dv 8 (nb l) = num l
  | [] => rfl
  | c :: l => by
    show c.toNat + 2 ^ 8 * dv 8 (nb l) = c.toNat + 256 * num l
    rw [dv_num l]
/-- Digits, told as letters, the highest first. -/
theorem dv_enc : ∀ ds : List Nat, (∀ x ∈ ds, x < 32) → (ds.map lett).reverse = enc32 (dv 5 ds) ds.length
  | [], _ => rfl
  | d :: ds, h => by
    have hd := h d (by simp)
    have ih := dv_enc ds (fun x hx => h x (by simp [hx]))
    show ((lett d :: ds.map lett)).reverse = enc32 ((d + 2 ^ 5 * dv 5 ds) / 32) ds.length ++ [lett ((d + 2 ^ 5 * dv 5 ds) % 32)]
    rw [List.reverse_cons, ih, show (d + 2 ^ 5 * dv 5 ds) / 32 = dv 5 ds by simp only [Nat.reducePow]; omega, show (d + 2 ^ 5 * dv 5 ds) % 32 = d by simp only [Nat.reducePow]; omega]
/-- The first n digits to the base of 256 are the number's first n bytes. -/
theorem dv_bytes : ∀ (n : Nat) (L : List Nat), (∀ x ∈ L, x < 256) → n ≤ L.length → (L.take n).map UInt8.ofNat = bytesOf (dv 8 L) n
  | 0, L, _, _ => by simp [bytesOf]
  | n + 1, [], _, h => by simp at h
  | n + 1, d :: L, hL, h => by
    have hd := hL d (by simp)
    have ih := dv_bytes n L (fun x hx => hL x (by simp [hx])) (by simpa using h)
    show UInt8.ofNat d :: (L.take n).map UInt8.ofNat = UInt8.ofNat ((d + 2 ^ 8 * dv 8 L) % 256) :: bytesOf ((d + 2 ^ 8 * dv 8 L) / 256) n
    rw [ih, show (d + 2 ^ 8 * dv 8 L) % 256 = d by simp only [Nat.reducePow]; omega, show (d + 2 ^ 8 * dv 8 L) / 256 = dv 8 L by simp only [Nat.reducePow]; omega]
end Go.Proofs.YtkkdcecnegdipaaDoor
