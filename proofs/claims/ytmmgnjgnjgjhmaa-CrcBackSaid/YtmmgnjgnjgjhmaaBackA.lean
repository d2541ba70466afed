/- What Get says of bytes of which up to four side by side were turned. Plain arithmetic over the texts before it. -/
import Derived.Test.YtmmgnjgnjgjhmaaLast
import Derived.Test.YtmmgnjgnjgjhmaaBurst
import Derived.RegionTactic

namespace Go.Proofs.Ytmmgnjgnjgjhmaa
open Go.RowKit
set_option linter.unusedVariables false

/-! plain: what Get says of turned bytes -/
theorem getB_iff (l : List UInt8) (h4 : 4 ≤ l.length) : getB l = true ↔ crcSt 4294967295 l = zsts 4 4294967295 := by
  obtain ⟨t, d, ht, hd, hl⟩ : ∃ t d, t = l.take (l.length - 4) ∧ d = l.drop (l.length - 4) ∧ t ++ d = l := ⟨_, _, rfl, rfl, List.take_append_drop _ _⟩
  have hdl : d.length = 4 := by rw [hd, List.length_drop]; omega
  have hn : crcSt 4294967295 t < 4294967296 := crcSt_lt t (by omega)
  have e1 : crcSt 4294967295 l = zsts 4 (crcSt 4294967295 t ^^^ word d) := by rw [← hl, crcSt_append, crcSt_word, hdl]
  unfold getB
  rw [← ht, ← hd, show decide (4 ≤ l.length) = true by simpa using h4, Bool.true_and, beq_iff_eq, e1]
  have hw : word d < 4294967296 := by have := word_lt d; rw [hdl] at this; exact this
  have hc : crcN t < 4294967296 := crcN_lt t
  have hwl : word (leN (crcN t)) = crcN t := by unfold leN; rw [word_le]; exact Nat.mod_eq_of_lt hc
  constructor
  · intro h
    rw [h, hwl]
    unfold crcN
    rw [Nat.xor_comm 4294967295, ← Nat.xor_assoc, Nat.xor_self, Nat.zero_xor]
  · intro h
    have h2 := zsts_inj 4 (Nat.xor_lt_two_pow (n := 32) hn hw) (by omega) h
    refine word_inj d (leN (crcN t)) hdl ?_
    rw [hwl]
    unfold crcN
    generalize crcSt 4294967295 t = z at *
    rw [← h2, Nat.xor_comm (z ^^^ word d), ← Nat.xor_assoc, Nat.xor_self, Nat.zero_xor]
theorem getB_put (l : List UInt8) : getB (l ++ leN (crcN l)) = true := by
  unfold getB
  have hl : (l ++ leN (crcN l)).length - 4 = l.length := by simp [leN]
  rw [hl, List.take_left, List.drop_left]
  simp [leN]
theorem getB_turned (P E Q : List UInt8) (h4 : 4 ≤ P.length) (h1 : P.length = E.length) (h2 : E.length = Q.length) (hq : ∀ j, Q.getD j 0 = P.getD j 0 ^^^ E.getD j 0) (hP : getB P = true) :
    getB Q = true ↔ crcSt 0 E = 0 := by
  have e1 := crcSt_xor P E Q 4294967295 0 h1 h2 hq
  rw [Nat.xor_zero] at e1
  rw [getB_iff Q (by omega), e1, (getB_iff P h4).mp hP]
  constructor
  · intro h
    have h3 : zsts 4 4294967295 ^^^ crcSt 0 E = zsts 4 4294967295 ^^^ 0 := by rw [Nat.xor_zero]; exact h
    exact xor_left h3
  · intro h; rw [h, Nat.xor_zero]

/-- The first m places from k on turned by f. -/
def turnL (P : List UInt8) (k m : Nat) (f : Nat → Nat) : List UInt8 := (List.range P.length).map fun j => if k ≤ j ∧ j < k + m then P.getD j 0 ^^^ UInt8.ofNat (f (j - k)) else P.getD j 0
def oddB (f : Nat → Nat) (m : Nat) : Bool := (List.range m).any fun j => f j != 0
theorem word_zeros : ∀ m, word (List.replicate m 0) = 0
  | 0 => rfl
  | m + 1 => by
    show (0 : UInt8).toNat ^^^ (256 * word (List.replicate m 0)) = 0
    rw [word_zeros m]; rfl
theorem getB_turn (P : List UInt8) (k m : Nat) (f : Nat → Nat) (h4 : 4 ≤ P.length) (hm : m ≤ 4) (hkm : k + m ≤ P.length) (hf : ∀ j, j < m → f j ≤ 255) (hP : getB P = true) :
    getB (turnL P k m f) = !oddB f m := by
  obtain ⟨fs, hfs⟩ : ∃ fs, fs = (List.range m).map fun j => UInt8.ofNat (f j) := ⟨_, rfl⟩
  have hfl : fs.length = m := by rw [hfs]; simp
  have hget : ∀ j, (List.replicate k (0 : UInt8) ++ (fs ++ List.replicate (P.length - k - m) 0)).getD j 0 = if k ≤ j ∧ j < k + m then UInt8.ofNat (f (j - k)) else 0 := by
    intro j
    rw [List.getD_eq_getElem?_getD, List.getElem?_append, List.getElem?_append, List.length_replicate, hfl]
    by_cases h1 : j < k
    · rw [if_pos h1, if_neg (by omega), List.getElem?_replicate, if_pos h1]; rfl
    · rw [if_neg h1]
      by_cases h2 : j - k < m
      · rw [if_pos h2, if_pos (by omega), hfs, List.getElem?_map, List.getElem?_range h2]; rfl
      · rw [if_neg h2, if_neg (by omega), List.getElem?_replicate]
        split <;> rfl
  have hq : ∀ j, (turnL P k m f).getD j 0 = P.getD j 0 ^^^ (List.replicate k (0 : UInt8) ++ (fs ++ List.replicate (P.length - k - m) 0)).getD j 0 := by
    intro j
    rw [hget]
    unfold turnL
    rw [getD_range_map]
    by_cases hj : j < P.length
    · rw [if_pos hj]
      split
      · rfl
      · rw [UInt8.xor_zero]
    · rw [if_neg hj, if_neg (by omega), UInt8.xor_zero, List.getD_eq_getElem?_getD, List.getElem?_eq_none (by omega)]; rfl
  have hiff := getB_turned P _ (turnL P k m f) h4 (by simp [hfl]; omega) (by simp [turnL, hfl]; omega) hq hP
  have hz : word fs = 0 ↔ oddB f m = false := by
    constructor
    · intro h
      have h2 := word_inj fs (List.replicate m 0) (by rw [hfl]; simp) (by rw [h, word_zeros])
      unfold oddB
      rw [List.any_eq_false]
      intro j hj
      have hj2 : j < m := by simpa using hj
      have h3 : fs[j]? = some 0 := by rw [h2, List.getElem?_replicate, if_pos hj2]
      rw [hfs, List.getElem?_map, List.getElem?_range hj2] at h3
      have h4 : UInt8.ofNat (f j) = 0 := by simpa using h3
      have h5 := congrArg UInt8.toNat h4
      rw [UInt8.toNat_ofNat'] at h5
      have h6 := hf j hj2
      have h7 : f j = 0 := by
        have : (0 : UInt8).toNat = 0 := rfl
        omega
      simp [h7]
    · intro h
      have h2 : fs = List.replicate m 0 := by
        apply List.ext_getElem
        · rw [hfl]; simp
        · intro j h3 h4
          unfold oddB at h
          rw [List.any_eq_false] at h
          have h5 := h j (by rw [hfl] at h3; simpa using h3)
          have h6 : f j = 0 := by simpa using h5
          simp [hfs, h6]
      rw [h2, word_zeros]
  cases ho : oddB f m with
  | false =>
    rw [Bool.not_false]
    refine hiff.mpr ?_
    rw [crcSt_append, crcSt_zeros, crcSt_append, crcSt_from_zeros, crcSt_word, Nat.zero_xor, hz.mpr ho]
    have hzz : ∀ n, zsts n 0 = 0 := by
      intro n
      induction n with
      | zero => rfl
      | succ n ih => show zsts n (zst 0) = 0; rw [show zst 0 = 0 from by decide +kernel]; exact ih
    rw [hzz, hzz]
  | true =>
    rw [Bool.not_true, Bool.eq_false_iff]
    intro h
    have h2 := crcSt_burst k (P.length - k - m) fs (by omega) (hiff.mp h)
    rw [hz.mp h2] at ho
    cases ho
end Go.Proofs.Ytmmgnjgnjgjhmaa
