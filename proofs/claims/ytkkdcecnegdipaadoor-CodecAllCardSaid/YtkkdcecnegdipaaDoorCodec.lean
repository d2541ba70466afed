/- The plain mathematics of bytes as letters: numbers of bytes, their digits to the base of 32, six bits a letter, bytes folded. No condition. -/
import Derived.KernelRfl
import GoSem.Op.String
namespace Go.Proofs.YtkkdcecnegdipaaDoor

/-- The number that bytes are, the lowest first. -/
def num : List UInt8 → Nat
  | [] => 0
  | c :: l => c.toNat + 256 * num l
theorem num_lt : ∀ l : List UInt8, num l < 256 ^ l.length
  | [] => by show 0 < 1; omega
  | c :: l => by
    have h := num_lt l
    have hc := c.toNat_lt
    show c.toNat + 256 * num l < 256 ^ l.length * 256
    omega
theorem num_append : ∀ l m : List UInt8, num (l ++ m) = num l + 256 ^ l.length * num m
  | [], m => by show num m = 0 + 1 * num m; omega
  | c :: l, m => by
    show c.toNat + 256 * num (l ++ m) = c.toNat + 256 * num l + 256 ^ l.length * 256 * num m
    rw [num_append l m, Nat.mul_add, Nat.mul_assoc (256 ^ l.length), Nat.mul_left_comm]
    omega
theorem num_inj : ∀ l m : List UInt8, l.length = m.length → num l = num m → l = m
  | [], [], _, _ => rfl
  | [], _ :: _, h, _ => by simp at h
  | _ :: _, [], h, _ => by simp at h
  | c :: l, d :: m, h, hn => by
    have hc := c.toNat_lt
    have hd := d.toNat_lt
    have hn' : c.toNat + 256 * num l = d.toNat + 256 * num m := hn
    have h1 : c.toNat = d.toNat := by omega
    have h2 : num l = num m := by omega
    rw [UInt8.toNat_inj.1 h1, num_inj l m (by simpa using h) h2]
/-- n bytes of a number, the lowest first. -/
def bytesOf (x : Nat) : Nat → List UInt8
  | 0 => []
  | n + 1 => UInt8.ofNat (x % 256) :: bytesOf (x / 256) n
theorem bytesOf_length (x : Nat) : ∀ n, (bytesOf x n).length = n
  | 0 => rfl
  | n + 1 => by show (bytesOf (x / 256) n).length + 1 = _; rw [bytesOf_length (x / 256) n]
theorem bytesOf_num : ∀ l : List UInt8, bytesOf (num l) l.length = l
  | [] => rfl
  | c :: l => by
    have hc := c.toNat_lt
    show UInt8.ofNat ((c.toNat + 256 * num l) % 256) :: bytesOf ((c.toNat + 256 * num l) / 256) l.length = c :: l
    rw [show (c.toNat + 256 * num l) % 256 = c.toNat by omega, show (c.toNat + 256 * num l) / 256 = num l by omega, bytesOf_num l]
    simp
theorem num_bytesOf (x : Nat) : ∀ n, x < 256 ^ n → num (bytesOf x n) = x
  | 0, h => by
    have : x < 1 := h
    show 0 = x
    omega
  | n + 1, h => by
    have h' : x < 256 ^ n * 256 := h
    have h2 : x / 256 < 256 ^ n := by omega
    show (UInt8.ofNat (x % 256)).toNat + 256 * num (bytesOf (x / 256) n) = x
    rw [num_bytesOf (x / 256) n h2, UInt8.toNat_ofNat']
    omega
/-- A byte of a number, at its place. -/
theorem num_get : ∀ (l : List UInt8) (j : Nat), (l.getD j 0).toNat = num l / 256 ^ j % 256
  | [], j => by simp [num]
  | c :: l, 0 => by
    have hc := c.toNat_lt
    show c.toNat = (c.toNat + 256 * num l) / 1 % 256
    omega
  | c :: l, j + 1 => by
    have hc := c.toNat_lt
    have h := num_get l j
    show (l.getD j 0).toNat = (c.toNat + 256 * num l) / (256 ^ j * 256) % 256
    rw [h, Nat.mul_comm (256 ^ j) 256, ← Nat.div_div_eq_div_mul, show (c.toNat + 256 * num l) / 256 = num l by omega]
/-- A bit of bytes, by its byte. -/
theorem bit_num (l : List UInt8) (k : Nat) : (l.getD (k / 8) 0).toNat / 2 ^ (k % 8) % 2 = num l / 2 ^ k % 2 := by
  rw [num_get]
  have h : (2 : Nat) ^ k = 256 ^ (k / 8) * 2 ^ (k % 8) := by
    rw [show (256 : Nat) = 2 ^ 8 from rfl, ← Nat.pow_mul, ← Nat.pow_add]
    congr 1
    omega
  rw [h, ← Nat.div_div_eq_div_mul]
  generalize num l / 256 ^ (k / 8) = y
  have h8 : k % 8 < 8 := Nat.mod_lt _ (by decide)
  rcases (show k % 8 = 0 ∨ k % 8 = 1 ∨ k % 8 = 2 ∨ k % 8 = 3 ∨ k % 8 = 4 ∨ k % 8 = 5 ∨ k % 8 = 6 ∨ k % 8 = 7 by omega) with h | h | h | h | h | h | h | h <;> rw [h] <;> simp only [Nat.reducePow] <;> omega
/-- Five bits are a digit. -/
theorem digit_bits (x i : Nat) : x / 32 ^ i % 32 = x / 2 ^ (5 * i) % 2 + x / 2 ^ (5 * i + 1) % 2 * 2 + x / 2 ^ (5 * i + 2) % 2 * 4 + x / 2 ^ (5 * i + 3) % 2 * 8 + x / 2 ^ (5 * i + 4) % 2 * 16 := by
  have h : (32 : Nat) ^ i = 2 ^ (5 * i) := by rw [show (32 : Nat) = 2 ^ 5 from rfl, ← Nat.pow_mul]
  have e : ∀ k, x / 2 ^ (5 * i + k) = x / 2 ^ (5 * i) / 2 ^ k := fun k => by rw [Nat.pow_add, Nat.div_div_eq_div_mul]
  rw [h, e 1, e 2, e 3, e 4]
  generalize x / 2 ^ (5 * i) = y
  simp only [Nat.reducePow]
  omega

def letL : List UInt8 := [48, 49, 50, 51, 52, 53, 54, 55, 56, 57, 97, 98, 99, 100, 102, 103, 104, 105, 106, 107, 108, 109, 110, 112, 113, 114, 115, 118, 119, 120, 121, 122]
/-- The letter of a digit. -/
def lett (d : Nat) : UInt8 := letL.getD d 0
/-- The digit of a letter; 32: none. -/
def placeN (l : List UInt8) (c : UInt8) : Nat := l.findIdx (· == c)
theorem lett_mono : ∀ a, a < 32 → ∀ b, b < 32 → (a < b ↔ (lett a).toNat < (lett b).toNat) := by decide +kernel
theorem lett_place : ∀ d, d < 32 → placeN letL (lett d) = d := by decide +kernel
theorem lett_inj (a b : Nat) (ha : a < 32) (hb : b < 32) (h : lett a = lett b) : a = b := by
  rw [← lett_place a ha, ← lett_place b hb, h]
/-- m digits of a number to the base of 32, the highest first. -/
def enc32 (x : Nat) : Nat → List UInt8
  | 0 => []
  | m + 1 => enc32 (x / 32) m ++ [lett (x % 32)]
theorem enc32_length (x : Nat) : ∀ m, (enc32 x m).length = m
  | 0 => rfl
  | m + 1 => by show (enc32 (x / 32) m ++ [lett (x % 32)]).length = _; rw [List.length_append, enc32_length (x / 32) m]; rfl
def many32 (n : Nat) : Nat := (8 * n + 4) / 5
def b32 (l : List UInt8) : List UInt8 := enc32 (num l) (many32 l.length)
theorem b32_length (l : List UInt8) : (b32 l).length = many32 l.length := enc32_length _ _
theorem enc32_inj (x y : Nat) : ∀ m, x < 32 ^ m → y < 32 ^ m → enc32 x m = enc32 y m → x = y := by
  intro m
  induction m generalizing x y with
  | zero =>
    intro hx hy _
    have h1 : x < 1 := hx
    have h2 : y < 1 := hy
    omega
  | succ m ih =>
    intro hx hy h
    have h1 : x < 32 ^ m * 32 := hx
    have h2 : y < 32 ^ m * 32 := hy
    have hh : enc32 (x / 32) m ++ [lett (x % 32)] = enc32 (y / 32) m ++ [lett (y % 32)] := h
    obtain ⟨ha, hb⟩ := List.append_inj hh (by rw [enc32_length, enc32_length])
    have hq := ih (x / 32) (y / 32) (by omega) (by omega) ha
    have hr := lett_inj (x % 32) (y % 32) (Nat.mod_lt _ (by decide)) (Nat.mod_lt _ (by decide)) (by simpa using hb)
    omega
theorem many_fits (n : Nat) : (256 : Nat) ^ n ≤ 32 ^ many32 n := by
  rw [show (256 : Nat) = 2 ^ 8 from rfl, show (32 : Nat) = 2 ^ 5 from rfl, ← Nat.pow_mul, ← Nat.pow_mul]
  exact Nat.pow_le_pow_right (by decide) (by unfold many32; omega)
theorem b32_inj (l m : List UInt8) (hl : l.length = m.length) (h : b32 l = b32 m) : l = m := by
  unfold b32 at h
  rw [← hl] at h
  exact num_inj l m hl (enc32_inj _ _ (many32 l.length) (Nat.lt_of_lt_of_le (num_lt l) (many_fits _)) (Nat.lt_of_lt_of_le (by rw [hl]; exact num_lt m) (many_fits _)) h)
/-- The i-th letter from the end. -/
theorem enc32_get (x : Nat) : ∀ (m i : Nat), i < m → (enc32 x m).getD (m - 1 - i) 0 = lett (x / 32 ^ i % 32) := by
  intro m
  induction m generalizing x with
  | zero => intro i hi; omega
  | succ m ih =>
    intro i hi
    show (enc32 (x / 32) m ++ [lett (x % 32)]).getD (m + 1 - 1 - i) 0 = _
    rw [List.getD_eq_getElem?_getD]
    rcases Nat.eq_zero_or_pos i with rfl | hp
    · rw [List.getElem?_append_right (by rw [enc32_length]; omega), enc32_length]
      simp
    · obtain ⟨j, rfl⟩ : ∃ j, i = j + 1 := ⟨i - 1, by omega⟩
      rw [List.getElem?_append_left (by rw [enc32_length]; omega), ← List.getD_eq_getElem?_getD, show m + 1 - 1 - (j + 1) = m - 1 - j by omega, ih (x / 32) j (by omega), Nat.div_div_eq_div_mul, Nat.pow_succ, Nat.mul_comm 32]
/-- The number that letters tell, the highest first. -/
def val32 (s : List UInt8) : Nat := s.foldl (fun v c => v * 32 + placeN letL c % 32) 0
theorem val_enc (x : Nat) : ∀ m, x < 32 ^ m → val32 (enc32 x m) = x := by
  intro m
  induction m generalizing x with
  | zero => intro h; have h1 : x < 1 := h; show 0 = x; omega
  | succ m ih =>
    intro h
    have h' : x < 32 ^ m * 32 := h
    show val32 (enc32 (x / 32) m ++ [lett (x % 32)]) = x
    unfold val32
    rw [List.foldl_append]
    show List.foldl _ 0 (enc32 (x / 32) m) * 32 + placeN letL (lett (x % 32)) % 32 = x
    have := ih (x / 32) (by omega)
    unfold val32 at this
    rw [this, lett_place (x % 32) (Nat.mod_lt _ (by decide))]
    omega
/-- What letters say: n bytes, or nothing. -/
def get32 (s : List UInt8) (n : Nat) : Option (List UInt8) := if n ≤ 64 ∧ b32 (bytesOf (val32 s) n) = s then some (bytesOf (val32 s) n) else none
theorem val_b32 (l : List UInt8) : val32 (b32 l) = num l := val_enc _ _ (Nat.lt_of_lt_of_le (num_lt l) (many_fits _))
theorem get32_b32 (l : List UInt8) (h : l.length ≤ 64) : get32 (b32 l) l.length = some l := by
  unfold get32
  rw [val_b32, bytesOf_num, if_pos ⟨h, rfl⟩]
theorem get32_some {s b : List UInt8} {n : Nat} (h : get32 s n = some b) : n ≤ 64 ∧ b.length = n ∧ b32 b = s := by
  unfold get32 at h
  split at h
  · rename_i hc
    injection h with h
    subst h
    exact ⟨hc.1, bytesOf_length _ _, hc.2⟩
  · cases h
theorem get32_iff (s b : List UInt8) (n : Nat) : get32 s n = some b ↔ n ≤ 64 ∧ b.length = n ∧ b32 b = s := by
  constructor
  · exact get32_some
  · rintro ⟨h1, rfl, rfl⟩
    exact get32_b32 b h1
/-- A way to read letters that finds the bytes where there are any tells what get32 tells. -/
theorem get32_of (s : List UInt8) (n : Nat) (hn : n ≤ 64) (d : List UInt8) (hd : d.length = n) (h : ∀ b : List UInt8, b.length = n → b32 b = s → d = b) : get32 s n = if b32 d = s then some d else none := by
  by_cases e : b32 d = s
  · rw [if_pos e, get32_iff]; exact ⟨hn, hd, e⟩
  · rw [if_neg e]
    cases hg : get32 s n with
    | none => rfl
    | some b =>
      obtain ⟨-, h2, h3⟩ := get32_some hg
      exact absurd (by rw [h b h2 h3]; exact h3) e

def hexd (n : Nat) : UInt8 := if n < 10 then UInt8.ofNat (48 + n) else UInt8.ofNat (87 + n)
def hexL : List UInt8 := [48, 49, 50, 51, 52, 53, 54, 55, 56, 57, 97, 98, 99, 100, 101, 102]
def hex : List UInt8 → List UInt8
  | [] => []
  | c :: l => hexd (c.toNat / 16) :: hexd (c.toNat % 16) :: hex l
theorem hex_length : ∀ l : List UInt8, (hex l).length = 2 * l.length
  | [] => rfl
  | c :: l => by show (hex l).length + 1 + 1 = 2 * (l.length + 1); rw [hex_length l]; omega
theorem hexd_place : ∀ d, d < 16 → placeN hexL (hexd d) = d := by decide +kernel
theorem hexd_get : ∀ d, d < 16 → hexL.getD d 0 = hexd d := by decide +kernel
def unhex : List UInt8 → List UInt8
  | a :: b :: l => UInt8.ofNat (placeN hexL a * 16 + placeN hexL b) :: unhex l
  | _ => []
theorem unhex_hex : ∀ l : List UInt8, unhex (hex l) = l
  | [] => rfl
  | c :: l => by
    have hc := c.toNat_lt
    show UInt8.ofNat (placeN hexL (hexd (c.toNat / 16)) * 16 + placeN hexL (hexd (c.toNat % 16))) :: unhex (hex l) = c :: l
    rw [hexd_place _ (by omega), hexd_place _ (by omega), unhex_hex l, show c.toNat / 16 * 16 + c.toNat % 16 = c.toNat by omega]
    simp
def getHex (s : List UInt8) : Option (List UInt8) := if hex (unhex s) = s then some (unhex s) else none
theorem getHex_iff (s b : List UInt8) : getHex s = some b ↔ hex b = s := by
  unfold getHex
  constructor
  · intro h
    split at h
    · rename_i hc; injection h with h; subst h; exact hc
    · cases h
  · rintro rfl
    rw [unhex_hex, if_pos rfl]
theorem getHex_of (s d : List UInt8) (h : ∀ b : List UInt8, hex b = s → d = b) : getHex s = if hex d = s then some d else none := by
  by_cases e : hex d = s
  · rw [if_pos e, getHex_iff]; exact e
  · rw [if_neg e]
    cases hg : getHex s with
    | none => rfl
    | some b =>
      have h3 := (getHex_iff s b).1 hg
      exact absurd (by rw [h b h3]; exact h3) e

def sixL : List UInt8 := [65, 66, 67, 68, 69, 70, 71, 72, 73, 74, 75, 76, 77, 78, 79, 80, 81, 82, 83, 84, 85, 86, 87, 88, 89, 90, 97, 98, 99, 100, 101, 102, 103, 104, 105, 106, 107, 108, 109, 110, 111, 112, 113, 114, 115, 116, 117, 118, 119, 120, 121, 122, 48, 49, 50, 51, 52, 53, 54, 55, 56, 57, 43, 47]
def six (d : Nat) : UInt8 := sixL.getD d 0
theorem six_place : ∀ d, d < 64 → placeN sixL (six d) = d := by decide +kernel
theorem six_not : placeN sixL 61 = 64 := by decide +kernel
/-- Of three bytes four letters; of a rest what there is, filled up. -/
def b64 : List UInt8 → List UInt8
  | a :: b :: c :: l => six (a.toNat / 4) :: six (a.toNat % 4 * 16 + b.toNat / 16) :: six (b.toNat % 16 * 4 + c.toNat / 64) :: six (c.toNat % 64) :: b64 l
  | [a, b] => [six (a.toNat / 4), six (a.toNat % 4 * 16 + b.toNat / 16), six (b.toNat % 16 * 4), 61]
  | [a] => [six (a.toNat / 4), six (a.toNat % 4 * 16), 61, 61]
  | [] => []
/-- The document's way to read them: letters that are none are passed by. -/
def dec64 : List UInt8 → Nat → Nat → List UInt8
  | [], _, _ => []
  | c :: l, n, bits =>
    if placeN sixL c = 64 then dec64 l n bits else
      let n2 := (n * 64 + placeN sixL c) % 1048576
      if bits + 6 ≥ 8 then UInt8.ofNat (n2 / 2 ^ (bits - 2)) :: dec64 l n2 (bits - 2) else dec64 l n2 (bits + 6)
theorem dec_step (d : Nat) (hd : d < 64) (l : List UInt8) (n bits : Nat) : dec64 (six d :: l) n bits = if bits + 6 ≥ 8 then UInt8.ofNat ((n * 64 + d) % 1048576 / 2 ^ (bits - 2)) :: dec64 l ((n * 64 + d) % 1048576) (bits - 2) else dec64 l ((n * 64 + d) % 1048576) (bits + 6) := by
  show (if placeN sixL (six d) = 64 then _ else _) = _
  rw [six_place d hd, if_neg (by omega)]
theorem dec_not (l : List UInt8) (n bits : Nat) : dec64 (61 :: l) n bits = dec64 l n bits := by
  show (if placeN sixL 61 = 64 then _ else _) = _
  rw [six_not, if_pos rfl]
theorem ofNat_eq (x : Nat) (a : UInt8) (h : x % 256 = a.toNat) : UInt8.ofNat x = a := by
  apply UInt8.toNat_inj.1
  rw [UInt8.toNat_ofNat', h]
theorem dec_b64 : ∀ (l : List UInt8) (n : Nat), dec64 (b64 l) n 0 = l
  | [], n => rfl
  | [a], n => by
    have ha := a.toNat_lt
    show dec64 [six (a.toNat / 4), six (a.toNat % 4 * 16), 61, 61] n 0 = [a]
    rw [dec_step _ (by omega), if_neg (by omega), dec_step _ (by omega), if_pos (by omega), dec_not, dec_not]
    show [UInt8.ofNat _] = [a]
    rw [ofNat_eq _ a (by simp only [Nat.reducePow, Nat.reduceSub, Nat.reduceAdd]; omega)]
  | [a, b], n => by
    have ha := a.toNat_lt
    have hb := b.toNat_lt
    show dec64 [six (a.toNat / 4), six (a.toNat % 4 * 16 + b.toNat / 16), six (b.toNat % 16 * 4), 61] n 0 = [a, b]
    rw [dec_step _ (by omega), if_neg (by omega), dec_step _ (by omega), if_pos (by omega), dec_step _ (by omega), if_pos (by omega), dec_not]
    show [UInt8.ofNat _, UInt8.ofNat _] = [a, b]
    rw [ofNat_eq _ a (by simp only [Nat.reducePow, Nat.reduceSub, Nat.reduceAdd]; omega), ofNat_eq _ b (by simp only [Nat.reducePow, Nat.reduceSub, Nat.reduceAdd]; omega)]
  | a :: b :: c :: l, n => by
    have ha := a.toNat_lt
    have hb := b.toNat_lt
    have hc := c.toNat_lt
    show dec64 (six (a.toNat / 4) :: six (a.toNat % 4 * 16 + b.toNat / 16) :: six (b.toNat % 16 * 4 + c.toNat / 64) :: six (c.toNat % 64) :: b64 l) n 0 = a :: b :: c :: l
    rw [dec_step _ (by omega), if_neg (by omega), dec_step _ (by omega), if_pos (by omega), dec_step _ (by omega), if_pos (by omega), dec_step _ (by omega), if_pos (by omega)]
    simp only [Nat.reducePow, Nat.reduceSub, Nat.reduceAdd]
    rw [dec_b64 l _, ofNat_eq _ a (by omega), ofNat_eq _ b (by omega), ofNat_eq _ c (by omega)]
def get64 (s : List UInt8) : Option (List UInt8) := if b64 (dec64 s 0 0) = s then some (dec64 s 0 0) else none
theorem get64_iff (s b : List UInt8) : get64 s = some b ↔ b64 b = s := by
  unfold get64
  constructor
  · intro h
    split at h
    · rename_i hc; injection h with h; subst h; exact hc
    · cases h
  · rintro rfl
    rw [dec_b64, if_pos rfl]
theorem get64_of (s d : List UInt8) (h : ∀ b : List UInt8, b64 b = s → d = b) : get64 s = if b64 d = s then some d else none := by
  by_cases e : b64 d = s
  · rw [if_pos e, get64_iff]; exact e
  · rw [if_neg e]
    cases hg : get64 s with
    | none => rfl
    | some b =>
      have h3 := (get64_iff s b).1 hg
      exact absurd (by rw [h b h3]; exact h3) e
theorem b64_length : ∀ l : List UInt8, (b64 l).length = (l.length + 2) / 3 * 4
  | [] => rfl
  | [_] => by show 4 = (1 + 2) / 3 * 4; decide
  | [_, _] => by show 4 = (1 + 1 + 2) / 3 * 4; decide
  | _ :: _ :: _ :: l => by
    show (b64 l).length + 1 + 1 + 1 + 1 = (l.length + 1 + 1 + 1 + 2) / 3 * 4
    rw [b64_length l]
    omega
/-- Bytes folded into n: byte k is the exclusive or of all at places that are k modulo n. -/
def foldN (n k : Nat) : List UInt8 → Nat → Nat
  | [], _ => 0
  | c :: l, i => (if i % n = k then c.toNat else 0) ^^^ foldN n k l (i + 1)
def fold (l : List UInt8) (n : Nat) : List UInt8 := (List.range n).map fun k => UInt8.ofNat (foldN n k l 0)
theorem foldN_lt (n k : Nat) : ∀ (l : List UInt8) (i : Nat), foldN n k l i < 256
  | [], _ => by show 0 < 256; omega
  | c :: l, i => by
    have hc := c.toNat_lt
    refine Nat.xor_lt_two_pow (n := 8) ?_ (foldN_lt n k l (i + 1))
    split
    · exact hc
    · show 0 < 256; omega
theorem foldN_append (n k : Nat) : ∀ (l m : List UInt8) (i : Nat), foldN n k (l ++ m) i = foldN n k l i ^^^ foldN n k m (i + l.length)
  | [], m, i => by show foldN n k m i = 0 ^^^ foldN n k m (i + 0); rw [Nat.zero_xor]; rfl
  | c :: l, m, i => by
    show (if i % n = k then c.toNat else 0) ^^^ foldN n k (l ++ m) (i + 1) = ((if i % n = k then c.toNat else 0) ^^^ foldN n k l (i + 1)) ^^^ foldN n k m (i + (l.length + 1))
    rw [foldN_append n k l m (i + 1), Nat.xor_assoc, show i + 1 + l.length = i + (l.length + 1) by omega]
theorem foldN_turn (n k : Nat) : ∀ (l : List UInt8) (i j : Nat), i % n = j % n → foldN n k l i = foldN n k l j
  | [], _, _, _ => rfl
  | c :: l, i, j, h => by
    show (if i % n = k then c.toNat else 0) ^^^ foldN n k l (i + 1) = (if j % n = k then c.toNat else 0) ^^^ foldN n k l (j + 1)
    rw [h, foldN_turn n k l (i + 1) (j + 1) (by rw [Nat.add_mod, h, ← Nat.add_mod])]
/-- Two texts side by side, the first one of whole turns. -/
theorem fold_two (l m : List UInt8) (n k : Nat) (hl : l.length % n = 0) : foldN n k (l ++ m) 0 = foldN n k l 0 ^^^ foldN n k m 0 := by
  rw [foldN_append, foldN_turn n k m (0 + l.length) 0 (by rw [Nat.zero_add, hl, Nat.zero_mod])]
/-- Two texts with a letter more each. -/
theorem bless_append : ∀ (a b : List UInt8) (c d : UInt8), a.length = b.length → Go.Op.bytesLess (a ++ [c]) (b ++ [d]) = (Go.Op.bytesLess a b || (a == b && decide (c < d)))
  | [], [], c, d, _ => by simp [Go.Op.bytesLess]
  | x :: a, y :: b, c, d, h => by
    have hl : a.length = b.length := by simpa using h
    show (decide (x < y) || (x == y && Go.Op.bytesLess (a ++ [c]) (b ++ [d]))) = ((decide (x < y) || (x == y && Go.Op.bytesLess a b)) || (x :: a == y :: b && decide (c < d)))
    rw [bless_append a b c d hl, List.cons_beq_cons]
    cases decide (x < y) <;> cases (x == y) <;> simp
  | [], _ :: _, _, _, h => by cases h
  | _ :: _, [], _, _, h => by cases h
/-- Letters of one number are less than another's when the number is. -/
theorem enc32_less (x y : Nat) : ∀ m, x < 32 ^ m → y < 32 ^ m → Go.Op.bytesLess (enc32 x m) (enc32 y m) = decide (x < y) := by
  intro m
  induction m generalizing x y with
  | zero =>
    intro hx hy
    have h1 : x < 1 := hx
    have h2 : y < 1 := hy
    have : x = 0 := by omega
    have : y = 0 := by omega
    subst x; subst y; rfl
  | succ m ih =>
    intro hx hy
    have h1 : x < 32 ^ m * 32 := hx
    have h2 : y < 32 ^ m * 32 := hy
    show Go.Op.bytesLess (enc32 (x / 32) m ++ [lett (x % 32)]) (enc32 (y / 32) m ++ [lett (y % 32)]) = _
    rw [bless_append _ _ _ _ (by rw [enc32_length, enc32_length]), ih (x / 32) (y / 32) (by omega) (by omega)]
    have hm := lett_mono (x % 32) (Nat.mod_lt _ (by decide)) (y % 32) (Nat.mod_lt _ (by decide))
    have hc : decide (lett (x % 32) < lett (y % 32)) = decide (x % 32 < y % 32) := by
      rw [decide_eq_decide, UInt8.lt_iff_toNat_lt]; exact hm.symm
    have he : (enc32 (x / 32) m == enc32 (y / 32) m) = decide (x / 32 = y / 32) := by
      rw [Bool.eq_iff_iff, beq_iff_eq, decide_eq_true_iff]
      exact ⟨enc32_inj _ _ m (by omega) (by omega), fun h => by rw [h]⟩
    rw [hc, he, Bool.eq_iff_iff]
    simp only [Bool.or_eq_true, Bool.and_eq_true, decide_eq_true_iff]
    omega
theorem b32_less (l k : List UInt8) (h : l.length = k.length) : Go.Op.bytesLess (b32 l) (b32 k) = decide (num l < num k) := by
  unfold b32
  rw [← h]
  exact enc32_less _ _ _ (Nat.lt_of_lt_of_le (num_lt l) (many_fits _)) (Nat.lt_of_lt_of_le (by rw [h]; exact num_lt k) (many_fits _))
theorem b32_eq (l k : List UInt8) (h : l.length = k.length) : (b32 l == b32 k) = decide (num l = num k) := by
  rw [Bool.eq_iff_iff, beq_iff_eq, decide_eq_true_iff]
  exact ⟨fun e => by rw [b32_inj l k h e], fun e => by rw [num_inj l k h e]⟩
/-- Numbers with the same bytes above place i, byte i less: less. -/
theorem num_less (l k : List UInt8) (i : Nat) (hi : i < l.length) (h : l.length = k.length) (hd : l.drop (i + 1) = k.drop (i + 1)) (hx : (l.getD i 0).toNat < (k.getD i 0).toNat) : num l < num k := by
  have e1 := num_append (l.take i) (l.drop i)
  have e2 := num_append (k.take i) (k.drop i)
  rw [List.take_append_drop, List.length_take, Nat.min_eq_left (by omega)] at e1 e2
  have f1 : l.drop i = l.getD i 0 :: l.drop (i + 1) := by
    rw [List.drop_eq_getElem_cons hi, List.getD_eq_getElem?_getD, List.getElem?_eq_getElem hi]; rfl
  have f2 : k.drop i = k.getD i 0 :: k.drop (i + 1) := by
    rw [List.drop_eq_getElem_cons (by omega), List.getD_eq_getElem?_getD, List.getElem?_eq_getElem (by omega)]; rfl
  rw [f1, hd] at e1
  rw [f2] at e2
  have g1 : num (l.take i) < 256 ^ i := by
    have := num_lt (l.take i)
    rwa [List.length_take, Nat.min_eq_left (by omega)] at this
  have hn : ∀ (c : UInt8) (m : List UInt8), num (c :: m) = c.toNat + 256 * num m := fun _ _ => rfl
  rw [hn] at e1 e2
  generalize num (k.drop (i + 1)) = z at e1 e2
  generalize 256 ^ i = p at e1 e2 g1
  have h3 : p * ((l.getD i 0).toNat + 256 * z) + p ≤ p * ((k.getD i 0).toNat + 256 * z) := by
    rw [← Nat.mul_succ]; exact Nat.mul_le_mul_left p (by omega)
  omega
theorem num_low (l : List UInt8) : num l % 32 = (l.getD 0 0).toNat % 32 := by
  cases l with
  | nil => rfl
  | cons c l =>
    have hn : num (c :: l) = c.toNat + 256 * num l := rfl
    rw [hn]; show _ = c.toNat % 32; omega
theorem enc32_last (x m : Nat) (hm : 0 < m) : (enc32 x m).getD (m - 1) 0 = lett (x % 32) := by
  have := enc32_get x m 0 hm
  rw [Nat.sub_zero, Nat.pow_zero, Nat.div_one] at this; exact this
theorem enc32_mem (x : Nat) : ∀ (m : Nat) (c : UInt8), c ∈ enc32 x m → ∃ d, d < 32 ∧ c = lett d := by
  intro m
  induction m generalizing x with
  | zero => intro c h; cases h
  | succ m ih =>
    intro c h
    have h' : c ∈ enc32 (x / 32) m ++ [lett (x % 32)] := h
    rcases List.mem_append.1 h' with h | h
    · exact ih _ c h
    · exact ⟨x % 32, Nat.mod_lt _ (by decide), by simpa using h⟩
end Go.Proofs.YtkkdcecnegdipaaDoor
