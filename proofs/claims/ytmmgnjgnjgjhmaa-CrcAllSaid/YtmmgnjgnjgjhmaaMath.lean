/- The plain arithmetic of sums of 32 bits: one step, the table, the sum of a list of bytes; each is linear by exclusive or. -/
import Derived.KernelRfl
namespace Go.Proofs.Ytmmgnjgnjgjhmaa

/-- One half of a number. -/
def stp (n : Nat) : Nat := if n % 2 = 1 then (n / 2) ^^^ 3988292384 else n / 2
/-- The number of the table at i. -/
def tabN (i : Nat) : Nat := stp (stp (stp (stp (stp (stp (stp (stp i)))))))
/-- One byte of a sum. -/
def up (n c : Nat) : Nat := (n / 256) ^^^ tabN ((n % 256) ^^^ c)
def crcSt (n : Nat) (l : List UInt8) : Nat := l.foldl (fun n c => up n c.toNat) n
def crcN (l : List UInt8) : Nat := 4294967295 ^^^ crcSt 4294967295 l

theorem stp_lt {n : Nat} (h : n < 4294967296) : stp n < 4294967296 := by
  unfold stp
  split
  · exact Nat.xor_lt_two_pow (n := 32) (by omega) (by omega)
  · omega
theorem stp_xor (a b : Nat) : stp (a ^^^ b) = stp a ^^^ stp b := by
  have h2 : (a ^^^ b) / 2 = (a / 2) ^^^ (b / 2) := Nat.xor_div_two
  have h1 : (a ^^^ b) % 2 = (a + b) % 2 := by
    have h := @Nat.xor_mod_two_eq_one a b
    by_cases h3 : (a ^^^ b) % 2 = 1
    · have h4 := h.mp h3
      omega
    · have h4 : ¬ ¬ (a % 2 = 1 ↔ b % 2 = 1) := fun h5 => h3 (h.mpr h5)
      omega
  unfold stp
  rw [h1, h2]
  by_cases ha : a % 2 = 1 <;> by_cases hb : b % 2 = 1
  · rw [if_neg (by omega), if_pos ha, if_pos hb]
    rw [Nat.xor_assoc, Nat.xor_comm 3988292384, Nat.xor_assoc, Nat.xor_self, Nat.xor_zero]
  · rw [if_pos (by omega), if_pos ha, if_neg hb]
    rw [Nat.xor_assoc, Nat.xor_assoc, Nat.xor_comm (b / 2)]
  · rw [if_pos (by omega), if_neg ha, if_pos hb, Nat.xor_assoc]
  · rw [if_neg (by omega), if_neg ha, if_neg hb]
theorem tabN_lt {n : Nat} (h : n < 4294967296) : tabN n < 4294967296 := stp_lt (stp_lt (stp_lt (stp_lt (stp_lt (stp_lt (stp_lt (stp_lt h)))))))
theorem tabN_xor (a b : Nat) : tabN (a ^^^ b) = tabN a ^^^ tabN b := by unfold tabN; simp only [stp_xor]
theorem up_lt {n c : Nat} (h : n < 4294967296) (hc : c < 256) : up n c < 4294967296 := by
  unfold up
  refine Nat.xor_lt_two_pow (n := 32) (by omega) (tabN_lt ?_)
  exact Nat.lt_of_lt_of_le (Nat.xor_lt_two_pow (n := 8) (by omega) hc) (by decide)
theorem crcSt_lt : ∀ (l : List UInt8) {n : Nat}, n < 4294967296 → crcSt n l < 4294967296
  | [], _, h => h
  | c :: l, _, h => crcSt_lt l (up_lt h c.toNat_lt)
theorem crcN_lt (l : List UInt8) : crcN l < 4294967296 := Nat.xor_lt_two_pow (n := 32) (by decide) (crcSt_lt l (by decide))
theorem crcSt_snoc (n : Nat) (l : List UInt8) (c : UInt8) : crcSt n (l ++ [c]) = up (crcSt n l) c.toNat := by unfold crcSt; rw [List.foldl_append]; rfl
theorem crcSt_append (n : Nat) (l m : List UInt8) : crcSt n (l ++ m) = crcSt (crcSt n l) m := by unfold crcSt; rw [List.foldl_append]


/-- What the table holds once r levels are filled. -/
def lvl (r j : Nat) : Nat := if j % (256 / 2 ^ r) = 0 then tabN j else 0
/-- .. and of the next one all ahead of i. -/
def lvlTo (r i j : Nat) : Nat := if j % (256 / 2 ^ r) = 0 ∨ (j % (128 / 2 ^ r) = 0 ∧ j < i) then tabN j else 0
def nnN : Nat → Nat
  | 0 => 1
  | r + 1 => stp (nnN r)
theorem nnN_lt : ∀ r, nnN r < 4294967296
  | 0 => by decide
  | r + 1 => stp_lt (nnN_lt r)
theorem lvl_zero : ∀ j, j < 256 → lvl 0 j = 0 := by decide +kernel
theorem lvl_last (j : Nat) : lvl 8 j = tabN j := by unfold lvl; rw [show 256 / 2 ^ 8 = 1 from rfl, if_pos (Nat.mod_one j)]
theorem lvlTo_lt (r i j : Nat) (hj : j < 256) : lvlTo r i j < 4294967296 := by
  unfold lvlTo
  split
  · exact tabN_lt (by omega)
  · omega
theorem lvlTo_zero (r j : Nat) : lvlTo r 0 j = lvl r j := by
  unfold lvlTo lvl
  by_cases h : j % (256 / 2 ^ r) = 0
  · rw [if_pos (Or.inl h), if_pos h]
  · rw [if_neg (by omega), if_neg h]
theorem lvlTo_all : ∀ r, r < 8 → ∀ j, j < 256 → lvlTo r 256 j = lvl (r + 1) j := by decide +kernel
theorem tab_lvl : ∀ e, e < 8 → ∀ i, i < 256 → i % 2 ^ (e + 1) = 0 → tabN (i + 2 ^ e) = tabN i ^^^ tabN (2 ^ e) := by decide +kernel
theorem nn_tab : ∀ r, r < 8 → nnN (r + 1) = tabN (128 / 2 ^ r) := by decide +kernel
theorem step_cond (d : Nat) (k j : Nat) (hd : d = 1 ∨ d = 2 ∨ d = 4 ∨ d = 8 ∨ d = 16 ∨ d = 32 ∨ d = 64 ∨ d = 128) (e : j ≠ k * (2 * d) + d) :
    (j % (2 * d) = 0 ∨ (j % d = 0 ∧ j < (k + 1) * (2 * d))) ↔ (j % (2 * d) = 0 ∨ (j % d = 0 ∧ j < k * (2 * d))) := by
  rcases hd with rfl | rfl | rfl | rfl | rfl | rfl | rfl | rfl <;> omega
theorem step_here (d : Nat) (k : Nat) (hd : d = 1 ∨ d = 2 ∨ d = 4 ∨ d = 8 ∨ d = 16 ∨ d = 32 ∨ d = 64 ∨ d = 128) :
    (k * (2 * d) + d) % d = 0 ∧ k * (2 * d) + d < (k + 1) * (2 * d) := by
  rcases hd with rfl | rfl | rfl | rfl | rfl | rfl | rfl | rfl <;> omega
theorem step_aux (d : Nat) (k j : Nat) (n : Nat) (hd : d = 1 ∨ d = 2 ∨ d = 4 ∨ d = 8 ∨ d = 16 ∨ d = 32 ∨ d = 64 ∨ d = 128)
    (ht : tabN (k * (2 * d) + d) = tabN (k * (2 * d)) ^^^ n) :
    (if j % (2 * d) = 0 ∨ (j % d = 0 ∧ j < (k + 1) * (2 * d)) then tabN j else 0) =
      if j = k * (2 * d) + d then (if k * (2 * d) % (2 * d) = 0 ∨ (k * (2 * d) % d = 0 ∧ k * (2 * d) < k * (2 * d)) then tabN (k * (2 * d)) else 0) ^^^ n
      else if j % (2 * d) = 0 ∨ (j % d = 0 ∧ j < k * (2 * d)) then tabN j else 0 := by
  have h0 : k * (2 * d) % (2 * d) = 0 := Nat.mul_mod_left _ _
  rw [if_pos (Or.inl h0)]
  by_cases e : j = k * (2 * d) + d
  · subst e
    rw [if_pos rfl, ← ht, if_pos (Or.inr (step_here d k hd))]
  · rw [if_neg e]
    have hc := step_cond d k j hd e
    by_cases h : j % (2 * d) = 0 ∨ (j % d = 0 ∧ j < k * (2 * d))
    · rw [if_pos h, if_pos (hc.mpr h)]
    · rw [if_neg h, if_neg (fun h2 => h (hc.mp h2))]
theorem lvlTo_step (r : Nat) (hr : r < 8) (k : Nat) (hk : k < 2 ^ r) (j : Nat) :
    lvlTo r ((k + 1) * (256 / 2 ^ r)) j = if j = k * (256 / 2 ^ r) + 128 / 2 ^ r then lvlTo r (k * (256 / 2 ^ r)) (k * (256 / 2 ^ r)) ^^^ nnN (r + 1) else lvlTo r (k * (256 / 2 ^ r)) j := by
  have h1 : 256 / 2 ^ r = 2 * (128 / 2 ^ r) := by
    rcases (show r = 0 ∨ r = 1 ∨ r = 2 ∨ r = 3 ∨ r = 4 ∨ r = 5 ∨ r = 6 ∨ r = 7 by omega) with rfl | rfl | rfl | rfl | rfl | rfl | rfl | rfl <;> rfl
  have h2 := nn_tab r hr
  have ht : tabN (k * (2 * (128 / 2 ^ r)) + 128 / 2 ^ r) = tabN (k * (2 * (128 / 2 ^ r))) ^^^ nnN (r + 1) := by
    rw [h2]
    have h3 := tab_lvl (7 - r) (by omega) (k * (2 * (128 / 2 ^ r)))
    rcases (show r = 0 ∨ r = 1 ∨ r = 2 ∨ r = 3 ∨ r = 4 ∨ r = 5 ∨ r = 6 ∨ r = 7 by omega) with rfl | rfl | rfl | rfl | rfl | rfl | rfl | rfl <;> exact h3 (by simp at hk ⊢; omega) (by simp; try omega)
  unfold lvlTo
  rw [h1]
  exact step_aux _ k j _ (by rcases (show r = 0 ∨ r = 1 ∨ r = 2 ∨ r = 3 ∨ r = 4 ∨ r = 5 ∨ r = 6 ∨ r = 7 by omega) with rfl | rfl | rfl | rfl | rfl | rfl | rfl | rfl <;> simp) ht
theorem tab_nodup : ∀ i, i < 256 → tabN i = 0 → i = 0 := by decide +kernel
theorem crcN_nine : crcN [49,50,51,52,53,54,55,56,57] = 3421780262 := by decide +kernel
theorem crcN_nil : crcN [] = 0 := by decide +kernel
end Go.Proofs.Ytmmgnjgnjgjhmaa
