/- What goes through bits, in plain numbers: letters of bytes, and bytes of letters. -/
import Derived.Test.YtdajmekliodmcaaGreatDoorCodec
import Derived.Test.YtdajmekliodmcaaGreatDoorMake
namespace Go.Proofs.YtdajmekliodmcaaGreatDoor
set_option linter.unusedVariables false
set_option linter.unusedSimpArgs false

def nb (l : List UInt8) : List Nat := l.map UInt8.toNat
theorem hi_or (h f x : Nat) (hf : f ≤ 64) (hx : x < 2 ^ f) : ∃ k, h * 2 ^ f % 18446744073709551616 ||| x = 2 ^ f * k + x ∧ k = h % 2 ^ (64 - f) := by
  refine ⟨h % 2 ^ (64 - f), ?_, rfl⟩
  have e : (18446744073709551616 : Nat) = 2 ^ f * 2 ^ (64 - f) := by rw [← Nat.pow_add, show f + (64 - f) = 64 by omega]
  rw [e, Nat.mul_comm h, Nat.mul_mod_mul_left]
  exact (Nat.two_pow_add_eq_or_of_lt hx _).symm

/-- What is told in the end, from a state on. -/
def hiEnd (f t : Nat) (s : Nat × Nat × List Nat) : List Nat := s.2.2 ++ if 0 < s.2.1 then [s.1 * 2 ^ (t - s.2.1) % 18446744073709551616 % 2 ^ t] else []
theorem hiAll_end (f t : Nat) (l : List Nat) : hiAll f t l = hiEnd f t (l.foldl (hiStep f t) (0, 0, [])) := rfl

/-! hex -/
/-! six bits -/
def sx : List UInt8 → List Nat
  | a :: b :: c :: l => a.toNat / 4 :: (a.toNat % 4 * 16 + b.toNat / 16) :: (b.toNat % 16 * 4 + c.toNat / 64) :: c.toNat % 64 :: sx l
  | [a, b] => [a.toNat / 4, a.toNat % 4 * 16 + b.toNat / 16, b.toNat % 16 * 4]
  | [a] => [a.toNat / 4, a.toNat % 4 * 16]
  | [] => []
theorem step86 (h a b c : Nat) (out : List Nat) (ha : a < 256) (hb : b < 256) (hc : c < 256) :
    ∃ h1 h2 h3, hiStep 8 6 (h, 0, out) a = (h1, 2, out ++ [a / 4]) ∧ h1 % 4 = a % 4 ∧ hiStep 8 6 (hiStep 8 6 (h, 0, out) a) b = (h2, 4, out ++ [a / 4, a % 4 * 16 + b / 16]) ∧ h2 % 16 = b % 16 ∧
      hiStep 8 6 (hiStep 8 6 (hiStep 8 6 (h, 0, out) a) b) c = (h3, 0, out ++ [a / 4, a % 4 * 16 + b / 16, b % 16 * 4 + c / 64, c % 64]) := by
  obtain ⟨k, hk, -⟩ := hi_or h 8 a (by decide) ha
  obtain ⟨k2, hk2, hkk⟩ := hi_or (2 ^ 8 * k + a) 8 b (by decide) hb
  obtain ⟨k3, hk3, hkk3⟩ := hi_or (2 ^ 8 * k2 + b) 8 c (by decide) hc
  simp only [Nat.reducePow, Nat.reduceSub] at hkk hkk3
  have s1 : hiStep 8 6 (h, 0, out) a = (2 ^ 8 * k + a, 2, out ++ [a / 4]) := by
    unfold hiStep hiEmit
    simp only [hk]
    simp [List.range_succ]
    omega
  have s2 : hiStep 8 6 (2 ^ 8 * k + a, 2, out ++ [a / 4]) b = (2 ^ 8 * k2 + b, 4, out ++ [a / 4, a % 4 * 16 + b / 16]) := by
    unfold hiStep hiEmit
    simp only [hk2]
    simp [List.range_succ]
    omega
  have s3 : hiStep 8 6 (2 ^ 8 * k2 + b, 4, out ++ [a / 4, a % 4 * 16 + b / 16]) c = (2 ^ 8 * k3 + c, 0, out ++ [a / 4, a % 4 * 16 + b / 16, b % 16 * 4 + c / 64, c % 64]) := by
    unfold hiStep hiEmit
    simp only [hk3]
    simp [List.range_succ]
    omega
  have s2b := s2
  rw [← s1] at s2b
  have s3b := s3
  rw [← s2b] at s3b
  have m1 : (2 ^ 8 * k + a) % 4 = a % 4 := by simp only [Nat.reducePow]; omega
  have m2 : (2 ^ 8 * k2 + b) % 16 = b % 16 := by simp only [Nat.reducePow]; omega
  exact ⟨2 ^ 8 * k + a, 2 ^ 8 * k2 + b, 2 ^ 8 * k3 + c, s1, m1, s2b, m2, s3b⟩
theorem all86 (l : List UInt8) : hiAll 8 6 (nb l) = sx l := by
  have key : ∀ (l : List UInt8) (h : Nat) (out : List Nat), hiEnd 8 6 ((nb l).foldl (hiStep 8 6) (h, 0, out)) = out ++ sx l := by
    intro l
    induction l using sx.induct with
    | case1 a b c l ih =>
      intro h out
      obtain ⟨h1, h2, h3, -, -, -, -, e⟩ := step86 h a.toNat b.toNat c.toNat out a.toNat_lt b.toNat_lt c.toNat_lt
      have e2 : (nb (a :: b :: c :: l)).foldl (hiStep 8 6) (h, 0, out) = (nb l).foldl (hiStep 8 6) (hiStep 8 6 (hiStep 8 6 (hiStep 8 6 (h, 0, out) a.toNat) b.toNat) c.toNat) := by simp only [nb, sx, List.map_cons, List.foldl_cons, List.map_nil, List.foldl_nil]
      rw [e2, e, ih]
      simp [sx]
    | case2 a b =>
      intro h out
      obtain ⟨h1, h2, h3, -, -, e, hm, -⟩ := step86 h a.toNat b.toNat 0 out a.toNat_lt b.toNat_lt (by decide)
      have e2 : (nb [a, b]).foldl (hiStep 8 6) (h, 0, out) = hiStep 8 6 (hiStep 8 6 (h, 0, out) a.toNat) b.toNat := by simp only [nb, sx, List.map_cons, List.foldl_cons, List.map_nil, List.foldl_nil]
      rw [e2, e]
      simp [sx, hiEnd]
      omega
    | case3 a =>
      intro h out
      obtain ⟨h1, h2, h3, e, hm, -⟩ := step86 h a.toNat 0 0 out a.toNat_lt (by decide) (by decide)
      have e2 : (nb [a]).foldl (hiStep 8 6) (h, 0, out) = hiStep 8 6 (h, 0, out) a.toNat := by simp only [nb, sx, List.map_cons, List.foldl_cons, List.map_nil, List.foldl_nil]
      rw [e2, e]
      simp [sx, hiEnd]
      omega
    | case4 => intro h out; simp [nb, sx, hiEnd]
  have := key l 0 []
  rw [hiAll_end, this]; rfl
theorem step68 (h a b c d : Nat) (out : List Nat) (ha : a < 64) (hb : b < 64) (hc : c < 64) (hd : d < 64) :
    ∃ h1 h2 h3 h4, hiStep 6 8 (h, 0, out) a = (h1, 6, out) ∧ hiStep 6 8 (h1, 6, out) b = (h2, 4, out ++ [a * 4 + b / 16]) ∧ hiStep 6 8 (h2, 4, out ++ [a * 4 + b / 16]) c = (h3, 2, out ++ [a * 4 + b / 16, b % 16 * 16 + c / 4]) ∧
      hiStep 6 8 (h3, 2, out ++ [a * 4 + b / 16, b % 16 * 16 + c / 4]) d = (h4, 0, out ++ [a * 4 + b / 16, b % 16 * 16 + c / 4, c % 4 * 64 + d]) := by
  obtain ⟨k, hk, -⟩ := hi_or h 6 a (by decide) ha
  obtain ⟨k2, hk2, hkk⟩ := hi_or (2 ^ 6 * k + a) 6 b (by decide) hb
  obtain ⟨k3, hk3, hkk3⟩ := hi_or (2 ^ 6 * k2 + b) 6 c (by decide) hc
  obtain ⟨k4, hk4, hkk4⟩ := hi_or (2 ^ 6 * k3 + c) 6 d (by decide) hd
  simp only [Nat.reducePow, Nat.reduceSub] at hkk hkk3 hkk4
  refine ⟨2 ^ 6 * k + a, 2 ^ 6 * k2 + b, 2 ^ 6 * k3 + c, 2 ^ 6 * k4 + d, ?_, ?_, ?_, ?_⟩
  · unfold hiStep hiEmit
    simp only [hk]
    simp
  · unfold hiStep hiEmit
    simp only [hk2]
    simp [List.range_succ]
    omega
  · unfold hiStep hiEmit
    simp only [hk3]
    simp [List.range_succ]
    omega
  · unfold hiStep hiEmit
    simp only [hk4]
    simp [List.range_succ]
    omega
theorem sx_lt (l : List UInt8) : ∀ x ∈ sx l, x < 64 := by
  induction l using sx.induct with
  | case1 a b c l ih =>
    have := a.toNat_lt; have := b.toNat_lt; have := c.toNat_lt
    intro x hx
    simp only [sx, List.mem_cons] at hx
    rcases hx with rfl | rfl | rfl | rfl | h
    · omega
    · omega
    · omega
    · omega
    · exact ih x h
  | case2 a b =>
    have := a.toNat_lt; have := b.toNat_lt
    intro x hx
    simp only [sx, List.mem_cons, List.not_mem_nil, or_false] at hx
    rcases hx with rfl | rfl | rfl <;> omega
  | case3 a =>
    have := a.toNat_lt
    intro x hx
    simp only [sx, List.mem_cons, List.not_mem_nil, or_false] at hx
    rcases hx with rfl | rfl <;> omega
  | case4 => intro x hx; cases hx
theorem all68 (l : List UInt8) : (hiAll 6 8 (sx l)).take l.length = nb l ∧ 6 * (sx l).length / 8 = l.length := by
  have key : ∀ (l : List UInt8) (h : Nat) (out : List Nat), ∃ tl, hiEnd 6 8 ((sx l).foldl (hiStep 6 8) (h, 0, out)) = out ++ nb l ++ tl := by
    intro l
    induction l using sx.induct with
    | case1 a b c l ih =>
      intro h out
      have ha := a.toNat_lt; have hb := b.toNat_lt; have hc := c.toNat_lt
      obtain ⟨h1, h2, h3, h4, e1, e2, e3, e4⟩ := step68 h (a.toNat / 4) (a.toNat % 4 * 16 + b.toNat / 16) (b.toNat % 16 * 4 + c.toNat / 64) (c.toNat % 64) out (by omega) (by omega) (by omega) (by omega)
      have e : (sx (a :: b :: c :: l)).foldl (hiStep 6 8) (h, 0, out) = (sx l).foldl (hiStep 6 8) (hiStep 6 8 (hiStep 6 8 (hiStep 6 8 (hiStep 6 8 (h, 0, out) (a.toNat / 4)) (a.toNat % 4 * 16 + b.toNat / 16)) (b.toNat % 16 * 4 + c.toNat / 64)) (c.toNat % 64)) := by simp only [nb, sx, List.map_cons, List.foldl_cons, List.map_nil, List.foldl_nil]
      rw [e, e1, e2, e3, e4]
      obtain ⟨tl, htl⟩ := ih h4 (out ++ [a.toNat / 4 * 4 + (a.toNat % 4 * 16 + b.toNat / 16) / 16, (a.toNat % 4 * 16 + b.toNat / 16) % 16 * 16 + (b.toNat % 16 * 4 + c.toNat / 64) / 4, (b.toNat % 16 * 4 + c.toNat / 64) % 4 * 64 + c.toNat % 64])
      refine ⟨tl, ?_⟩
      rw [htl, show a.toNat / 4 * 4 + (a.toNat % 4 * 16 + b.toNat / 16) / 16 = a.toNat by omega, show (a.toNat % 4 * 16 + b.toNat / 16) % 16 * 16 + (b.toNat % 16 * 4 + c.toNat / 64) / 4 = b.toNat by omega, show (b.toNat % 16 * 4 + c.toNat / 64) % 4 * 64 + c.toNat % 64 = c.toNat by omega]
      simp [nb]
    | case2 a b =>
      intro h out
      have ha := a.toNat_lt; have hb := b.toNat_lt
      obtain ⟨h1, h2, h3, h4, e1, e2, e3, e4⟩ := step68 h (a.toNat / 4) (a.toNat % 4 * 16 + b.toNat / 16) (b.toNat % 16 * 4) 0 out (by omega) (by omega) (by omega) (by omega)
      have e : (sx [a, b]).foldl (hiStep 6 8) (h, 0, out) = hiStep 6 8 (hiStep 6 8 (hiStep 6 8 (h, 0, out) (a.toNat / 4)) (a.toNat % 4 * 16 + b.toNat / 16)) (b.toNat % 16 * 4) := by simp only [nb, sx, List.map_cons, List.foldl_cons, List.map_nil, List.foldl_nil]
      rw [e, e1, e2, e3]
      refine ⟨[h3 * 2 ^ (8 - 2) % 18446744073709551616 % 2 ^ 8], ?_⟩
      rw [show a.toNat / 4 * 4 + (a.toNat % 4 * 16 + b.toNat / 16) / 16 = a.toNat by omega, show (a.toNat % 4 * 16 + b.toNat / 16) % 16 * 16 + (b.toNat % 16 * 4) / 4 = b.toNat by omega]
      simp [nb, hiEnd]
    | case3 a =>
      intro h out
      have ha := a.toNat_lt
      obtain ⟨h1, h2, h3, h4, e1, e2, e3, e4⟩ := step68 h (a.toNat / 4) (a.toNat % 4 * 16) 0 0 out (by omega) (by omega) (by omega) (by omega)
      have e : (sx [a]).foldl (hiStep 6 8) (h, 0, out) = hiStep 6 8 (hiStep 6 8 (h, 0, out) (a.toNat / 4)) (a.toNat % 4 * 16) := by simp only [nb, sx, List.map_cons, List.foldl_cons, List.map_nil, List.foldl_nil]
      rw [e, e1, e2]
      refine ⟨[h2 * 2 ^ (8 - 4) % 18446744073709551616 % 2 ^ 8], ?_⟩
      rw [show a.toNat / 4 * 4 + a.toNat % 4 * 16 / 16 = a.toNat by omega]
      simp [nb, hiEnd]
    | case4 => intro h out; exact ⟨[], by simp [nb, sx, hiEnd]⟩
  refine ⟨?_, ?_⟩
  · obtain ⟨tl, h⟩ := key l 0 []
    have h2 : hiAll 6 8 (sx l) = nb l ++ tl := by rw [hiAll_end, h]; rfl
    rw [h2]
    exact List.take_left' (by simp [nb])
  · induction l using sx.induct with
    | case1 a b c l ih => simp only [sx, List.length_cons]; omega
    | case2 a b => simp [sx]
    | case3 a => simp [sx]
    | case4 => simp [sx]
end Go.Proofs.YtdajmekliodmcaaGreatDoor
