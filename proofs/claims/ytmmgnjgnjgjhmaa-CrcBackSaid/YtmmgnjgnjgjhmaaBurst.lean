/- Up to four bytes side by side turned turn a sum: a text with its sum is told by what its bytes come to, and that turns with them. Plain arithmetic. -/
import Derived.Test.YtmmgnjgnjgjhmaaLin
namespace Go.Proofs.Ytmmgnjgnjgjhmaa

theorem nat_256 {x y : Nat} (h1 : x % 256 = y % 256) (h2 : x / 256 = y / 256) : x = y := by omega
/-- One byte nought. -/
def zst (x : Nat) : Nat := x / 256 ^^^ tabN (x % 256)
theorem zst_lt {x : Nat} (h : x < 4294967296) : zst x < 4294967296 := Nat.xor_lt_two_pow (n := 32) (by omega) (tabN_lt (by omega))
theorem zst_xor (a b : Nat) : zst (a ^^^ b) = zst a ^^^ zst b := by
  unfold zst
  rw [xor_div_256, xor_mod_256, tabN_xor, xor4]
theorem tab_high : ∀ i, i < 256 → i ≠ 0 → 16777216 ≤ tabN i := by decide +kernel
theorem tab_zero : tabN 0 = 0 := by decide +kernel
theorem xor_eq_zero {a b : Nat} (h : a ^^^ b = 0) : a = b := by
  have h4 := congrArg (fun x => x ^^^ b) h
  simpa [Nat.xor_assoc] using h4
theorem zst_zero {x : Nat} (hx : x < 4294967296) (h : zst x = 0) : x = 0 := by
  unfold zst at h
  have h1 := xor_eq_zero h
  by_cases h0 : x % 256 = 0
  · rw [h0, tab_zero] at h1; omega
  · have := tab_high (x % 256) (by omega) h0
    omega
def zsts : Nat → Nat → Nat
  | 0, x => x
  | k + 1, x => zsts k (zst x)
theorem zsts_lt : ∀ (k : Nat) {x : Nat}, x < 4294967296 → zsts k x < 4294967296
  | 0, _, h => h
  | k + 1, _, h => zsts_lt k (zst_lt h)
theorem zsts_zero : ∀ (k : Nat) {x : Nat}, x < 4294967296 → zsts k x = 0 → x = 0
  | 0, _, _, h => h
  | k + 1, _, hx, h => zst_zero hx (zsts_zero k (zst_lt hx) h)
theorem zsts_xor : ∀ (k a b : Nat), zsts k (a ^^^ b) = zsts k a ^^^ zsts k b
  | 0, _, _ => rfl
  | k + 1, a, b => by show zsts k (zst (a ^^^ b)) = zsts k (zst a) ^^^ zsts k (zst b); rw [zst_xor, zsts_xor]
theorem zsts_inj (k : Nat) {a b : Nat} (ha : a < 4294967296) (hb : b < 4294967296) (h : zsts k a = zsts k b) : a = b := by
  refine xor_eq_zero (zsts_zero k (Nat.xor_lt_two_pow (n := 32) ha hb) ?_)
  rw [zsts_xor, h, Nat.xor_self]

/-- Bytes as a number, the lowest first. -/
def word : List UInt8 → Nat
  | [] => 0
  | c :: l => c.toNat ^^^ (256 * word l)
theorem word_mod (c : UInt8) (l : List UInt8) : word (c :: l) % 256 = c.toNat := by
  have := UInt8.toNat_lt c
  show (c.toNat ^^^ (256 * word l)) % 256 = _
  rw [xor_mod_256, Nat.mul_mod_right, Nat.xor_zero, Nat.mod_eq_of_lt (by omega)]
theorem word_div (c : UInt8) (l : List UInt8) : word (c :: l) / 256 = word l := by
  have := UInt8.toNat_lt c
  show (c.toNat ^^^ (256 * word l)) / 256 = _
  rw [xor_div_256, Nat.div_eq_of_lt (by omega), Nat.zero_xor, Nat.mul_div_cancel_left _ (by omega)]
theorem word_lt : ∀ (l : List UInt8), word l < 256 ^ l.length
  | [] => by decide
  | c :: l => by
    have h1 := word_div c l
    have h2 := word_lt l
    have h3 : word (c :: l) < 256 * (256 ^ l.length) := by omega
    rw [List.length_cons, Nat.pow_succ, Nat.mul_comm]
    exact h3
theorem word_inj : ∀ (l m : List UInt8), l.length = m.length → word l = word m → l = m
  | [], [], _, _ => rfl
  | c :: l, d :: m, hl, h => by
    have h1 := word_mod c l
    have h2 := word_mod d m
    have h3 := word_div c l
    have h4 := word_div d m
    rw [h] at h1 h3
    have e1 : c = d := UInt8.toNat_inj.mp (h1.symm.trans h2)
    rw [e1, word_inj l m (by simpa using hl) (h3.symm.trans h4)]
  | [], _ :: _, hl, _ => by simp at hl
  | _ :: _, [], hl, _ => by simp at hl

theorem zst_high (y : Nat) : zst (256 * y) = y := by
  unfold zst
  rw [Nat.mul_div_cancel_left _ (by omega), Nat.mul_mod_right, tab_zero, Nat.xor_zero]
theorem up_zst (n c : Nat) (hc : c < 256) : up n c = zst (n ^^^ c) := by
  unfold up zst
  rw [xor_div_256, xor_mod_256, Nat.div_eq_of_lt hc, Nat.xor_zero, Nat.mod_eq_of_lt hc]
/-- What some bytes come to, all at once. -/
theorem crcSt_word : ∀ (l : List UInt8) (n : Nat), crcSt n l = zsts l.length (n ^^^ word l)
  | [], n => by show n = n ^^^ 0; rw [Nat.xor_zero]
  | c :: l, n => by
    show crcSt (up n c.toNat) l = zsts l.length (zst (n ^^^ (c.toNat ^^^ (256 * word l))))
    rw [crcSt_word l, up_zst _ _ (UInt8.toNat_lt c), ← Nat.xor_assoc, zst_xor (n ^^^ c.toNat), zst_high]

theorem word_le (v : Nat) : word [UInt8.ofNat v, UInt8.ofNat (v / 256), UInt8.ofNat (v / 65536), UInt8.ofNat (v / 16777216)] = v % 4294967296 := by
  have h0 : word [UInt8.ofNat (v / 16777216)] = v / 16777216 % 256 := by
    show (UInt8.ofNat (v / 16777216)).toNat ^^^ (256 * 0) = _
    rw [Nat.mul_zero, Nat.xor_zero]; exact UInt8.toNat_ofNat'
  have h1 : word [UInt8.ofNat (v / 65536), UInt8.ofNat (v / 16777216)] = v / 65536 % 65536 := by
    have a := word_mod (UInt8.ofNat (v / 65536)) [UInt8.ofNat (v / 16777216)]
    have b := word_div (UInt8.ofNat (v / 65536)) [UInt8.ofNat (v / 16777216)]
    rw [UInt8.toNat_ofNat'] at a
    rw [h0] at b
    refine nat_256 ?_ ?_
    · rw [a]; omega
    · rw [b]; omega
  have h2 : word [UInt8.ofNat (v / 256), UInt8.ofNat (v / 65536), UInt8.ofNat (v / 16777216)] = v / 256 % 16777216 := by
    have a := word_mod (UInt8.ofNat (v / 256)) [UInt8.ofNat (v / 65536), UInt8.ofNat (v / 16777216)]
    have b := word_div (UInt8.ofNat (v / 256)) [UInt8.ofNat (v / 65536), UInt8.ofNat (v / 16777216)]
    rw [UInt8.toNat_ofNat'] at a
    rw [h1] at b
    refine nat_256 ?_ ?_
    · rw [a]; omega
    · rw [b]; omega
  have a := word_mod (UInt8.ofNat v) [UInt8.ofNat (v / 256), UInt8.ofNat (v / 65536), UInt8.ofNat (v / 16777216)]
  have b := word_div (UInt8.ofNat v) [UInt8.ofNat (v / 256), UInt8.ofNat (v / 65536), UInt8.ofNat (v / 16777216)]
  rw [UInt8.toNat_ofNat'] at a
  rw [h2] at b
  refine nat_256 ?_ ?_
  · rw [a]; omega
  · rw [b]; omega

theorem crcSt_zeros : ∀ (k : Nat), crcSt 0 (List.replicate k 0) = 0
  | 0 => rfl
  | k + 1 => by
    show crcSt (up 0 0) (List.replicate k 0) = 0
    rw [show up 0 0 = 0 from by decide +kernel]
    exact crcSt_zeros k
theorem crcSt_from_zeros : ∀ (k n : Nat), crcSt n (List.replicate k 0) = zsts k n
  | 0, _ => rfl
  | k + 1, n => by
    show crcSt (up n 0) (List.replicate k 0) = zsts k (zst n)
    rw [up_zst n 0 (by omega), Nat.xor_zero, crcSt_from_zeros]
/-- A burst of up to four bytes among noughts comes to something, if it is not all nought. -/
theorem crcSt_burst (k r : Nat) (fs : List UInt8) (hl : fs.length ≤ 4) (h : crcSt 0 (List.replicate k 0 ++ (fs ++ List.replicate r 0)) = 0) : word fs = 0 := by
  rw [crcSt_append, crcSt_zeros, crcSt_append, crcSt_from_zeros, crcSt_word, Nat.zero_xor] at h
  have hw : word fs < 4294967296 := Nat.lt_of_lt_of_le (word_lt fs) (Nat.le_trans (Nat.pow_le_pow_right (by decide) hl) (by decide))
  exact zsts_zero _ hw (zsts_zero _ (zsts_lt _ hw) h)
end Go.Proofs.Ytmmgnjgnjgjhmaa
