/- The plain mathematics of bytes as letters: numbers of bytes, their digits to the base of 32, six bits a letter, bytes folded. No condition. -/
import Derived.KernelRfl
import GoSem.Op.String
namespace Go.Proofs.YtdajmekliodmcaaGreatDoor

/-- The digit of a letter; 32: none. -/
def placeN (l : List UInt8) (c : UInt8) : Nat := l.findIdx (· == c)
def sixL : List UInt8 := [65, 66, 67, 68, 69, 70, 71, 72, 73, 74, 75, 76, 77, 78, 79, 80, 81, 82, 83, 84, 85, 86, 87, 88, 89, 90, 97, 98, 99, 100, 101, 102, 103, 104, 105, 106, 107, 108, 109, 110, 111, 112, 113, 114, 115, 116, 117, 118, 119, 120, 121, 122, 48, 49, 50, 51, 52, 53, 54, 55, 56, 57, 43, 47]
def six (d : Nat) : UInt8 := sixL.getD d 0
theorem six_place : ∀ d, d < 64 → placeN sixL (six d) = d := by decide +kernel
theorem six_not : placeN sixL 61 = 64 := by decide +kernel
/-- Of three bytes four letters; of a rest what there is, filled up. -/
def b64 : List UInt8 → List UInt8
  | a :: b :: c :: l => six (a.toNat / 4) :: six (a.toNat % 4 * 16 + b.toNat / 16) :: six (b.toNat % 16 * 4 + c.toNat / 64) :: six (c.toNat % 64) :: b64 l
  | [a, b] => [six (a.toNat / 4), six (a.toNat % 4 * 16 + b.toNat / 16), six (b.toNat % 16 * 4), 61]
  | [a] => [six (a.toNat / 4), six (a.toNat % 4 * 16), 61, 61]
  | [] => []
/-- The document's way to read them: letters that are none are passed by. -/
def dec64 : List UInt8 → Nat → Nat → List UInt8
  | [], _, _ => []
  | c :: l, n, bits =>
    if placeN sixL c = 64 then dec64 l n bits else
      let n2 := (n * 64 + placeN sixL c) % 1048576
      if bits + 6 ≥ 8 then UInt8.ofNat (n2 / 2 ^ (bits - 2)) :: dec64 l n2 (bits - 2) else dec64 l n2 (bits + 6)
theorem dec_step (d : Nat) (hd : d < 64) (l : List UInt8) (n bits : Nat) : dec64 (six d :: l) n bits = if bits + 6 ≥ 8 then UInt8.ofNat ((n * 64 + d) % 1048576 / 2 ^ (bits - 2)) :: dec64 l ((n * 64 + d) % 1048576) (bits - 2) else dec64 l ((n * 64 + d) % 1048576) (bits + 6) := by
  show (if placeN sixL (six d) = 64 then _ else _) = _
  rw [six_place d hd, if_neg (by omega)]
theorem dec_not (l : List UInt8) (n bits : Nat) : dec64 (61 :: l) n bits = dec64 l n bits := by
  show (if placeN sixL 61 = 64 then _ else _) = _
  rw [six_not, if_pos rfl]
theorem ofNat_eq (x : Nat) (a : UInt8) (h : x % 256 = a.toNat) : UInt8.ofNat x = a := by
  apply UInt8.toNat_inj.1
  rw [UInt8.toNat_ofNat', h]
theorem dec_b64 : ∀ (l : List UInt8) (n : Nat), dec64 (b64 l) n 0 = l
  | [], n => rfl
  | [a], n => by
    have ha := a.toNat_lt
    show dec64 [six (a.toNat / 4), six (a.toNat % 4 * 16), 61, 61] n 0 = [a]
    rw [dec_step _ (by omega), if_neg (by omega), dec_step _ (by omega), if_pos (by omega), dec_not, dec_not]
    show [UInt8.ofNat _] = [a]
    rw [ofNat_eq _ a (by simp only [Nat.reducePow, Nat.reduceSub, Nat.reduceAdd]; omega)]
  | [a, b], n => by
    have ha := a.toNat_lt
    have hb := b.toNat_lt
    show dec64 [six (a.toNat / 4), six (a.toNat % 4 * 16 + b.toNat / 16), six (b.toNat % 16 * 4), 61] n 0 = [a, b]
    rw [dec_step _ (by omega), if_neg (by omega), dec_step _ (by omega), if_pos (by omega), dec_step _ (by omega), if_pos (by omega), dec_not]
    show [UInt8.ofNat _, UInt8.ofNat _] = [a, b]
    rw [ofNat_eq _ a (by simp only [Nat.reducePow, Nat.reduceSub, Nat.reduceAdd]; omega), ofNat_eq _ b (by simp only [Nat.reducePow, Nat.reduceSub, Nat.reduceAdd]; omega)]
  | a :: b :: c :: l, n => by
    have ha := a.toNat_lt
    have hb := b.toNat_lt
    have hc := c.toNat_lt
    show dec64 (six (a.toNat / 4) :: six (a.toNat % 4 * 16 + b.toNat / 16) :: six (b.toNat % 16 * 4 + c.toNat / 64) :: six (c.toNat % 64) :: b64 l) n 0 = a :: b :: c :: l
    rw [dec_step _ (by omega), if_neg (by omega), dec_step _ (by omega), if_pos (by omega), dec_step _ (by omega), if_pos (by omega), dec_step _ (by omega), if_pos (by omega)]
    simp only [Nat.reducePow, Nat.reduceSub, Nat.reduceAdd]
    rw [dec_b64 l _, ofNat_eq _ a (by omega), ofNat_eq _ b (by omega), ofNat_eq _ c (by omega)]
def get64 (s : List UInt8) : Option (List UInt8) := if b64 (dec64 s 0 0) = s then some (dec64 s 0 0) else none
theorem get64_iff (s b : List UInt8) : get64 s = some b ↔ b64 b = s := by
  unfold get64
  constructor
  · intro h
    split at h
    · rename_i hc; injection h with h; subst h; exact hc
    · cases h
  · rintro rfl
    rw [dec_b64, if_pos rfl]
theorem get64_of (s d : List UInt8) (h : ∀ b : List UInt8, b64 b = s → d = b) : get64 s = if b64 d = s then some d else none := by
  by_cases e : b64 d = s
  · rw [if_pos e, get64_iff]; exact e
  · rw [if_neg e]
    cases hg : get64 s with
    | none => rfl
    | some b =>
      have h3 := (get64_iff s b).1 hg
      exact absurd (by rw [h b h3]; exact h3) e
end Go.Proofs.YtdajmekliodmcaaGreatDoor
