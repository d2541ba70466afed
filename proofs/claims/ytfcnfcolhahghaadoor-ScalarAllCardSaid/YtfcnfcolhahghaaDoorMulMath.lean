/- Numbers as rows of words of 32 bits: what a row is worth, and how a product is made word by word. No condition but what each names. -/
import Derived.Test.YtfcnfcolhahghaaDoorNumMath
namespace Go.Proofs.YtfcnfcolhahghaaDoor
set_option linter.unusedVariables false
/-- What the first n words of a row are worth. -/
def v32 : Nat → (Nat → Nat) → Nat
  | 0, _ => 0
  | n + 1, f => v32 n f + f n * 4294967296 ^ n
theorem v32_succ (n : Nat) (f : Nat → Nat) : v32 (n + 1) f = v32 n f + f n * 4294967296 ^ n := rfl
theorem v32_ext {f g : Nat → Nat} : ∀ n, (∀ j, j < n → f j = g j) → v32 n f = v32 n g
  | 0, _ => rfl
  | n + 1, h => by rw [v32_succ, v32_succ, v32_ext n (fun j hj => h j (by omega)), h n (by omega)]
theorem v32_zero (f : Nat → Nat) : ∀ n, (∀ j, j < n → f j = 0) → v32 n f = 0
  | 0, _ => rfl
  | n + 1, h => by rw [v32_succ, v32_zero f n (fun j hj => h j (by omega)), h n (by omega), Nat.zero_mul]
theorem v32_upd (f : Nat → Nat) (k v : Nat) : ∀ n, k < n → v32 n (upd f k v) + f k * 4294967296 ^ k = v32 n f + v * 4294967296 ^ k
  | 0, h => by omega
  | n + 1, h => by
    rw [v32_succ, v32_succ]
    by_cases e : k = n
    · subst e
      have h1 : v32 k (upd f k v) = v32 k f := v32_ext k (fun j hj => by unfold upd; rw [if_neg (by omega)])
      have h2 : upd f k v k = v := by unfold upd; rw [if_pos rfl]
      rw [h1, h2]
      omega
    · have h1 := v32_upd f k v n (by omega)
      have h2 : upd f k v n = f n := by unfold upd; rw [if_neg (by omega)]
      rw [h2]
      omega
theorem v32_lt (f : Nat → Nat) : ∀ n, (∀ j, j < n → f j < 4294967296) → v32 n f < 4294967296 ^ n
  | 0, _ => by show (0 : Nat) < 1; omega
  | n + 1, h => by
    have h1 := v32_lt f n (fun j hj => h j (by omega))
    have h2 := h n (by omega)
    rw [v32_succ, Nat.pow_succ]
    have h3 : (f n + 1) * 4294967296 ^ n ≤ 4294967296 * 4294967296 ^ n := Nat.mul_le_mul_right _ (by omega)
    rw [Nat.add_mul, Nat.one_mul] at h3
    rw [Nat.mul_comm (4294967296 ^ n)]
    omega
theorem v32_split (f : Nat → Nat) (m : Nat) : ∀ n, v32 (m + n) f = v32 m f + 4294967296 ^ m * v32 n (fun j => f (m + j))
  | 0 => by simp [v32]
  | n + 1 => by
    rw [← Nat.add_assoc, v32_succ, v32_split f m n, v32_succ, Nat.mul_add, Nat.pow_add]
    rw [Nat.mul_left_comm (4294967296 ^ m), ← Nat.add_assoc]
/-- A number's words of 32 bits. -/
def half (a j : Nat) : Nat := if j % 2 = 0 then dig a (j / 2) % 4294967296 else dig a (j / 2) / 4294967296
theorem half_lt (a j : Nat) : half a j < 4294967296 := by
  have := dig_lt a (j / 2)
  unfold half
  split <;> omega
theorem half_val (a : Nat) (ha : a < 115792089237316195423570985008687907853269984665640564039457584007913129639936) : v32 8 (half a) = a := by
  have va := val_dig a ha
  unfold valN at va
  have h0 : half a 0 = dig a 0 % 4294967296 := rfl
  have h1 : half a 1 = dig a 0 / 4294967296 := rfl
  have h2 : half a 2 = dig a 1 % 4294967296 := rfl
  have h3 : half a 3 = dig a 1 / 4294967296 := rfl
  have h4 : half a 4 = dig a 2 % 4294967296 := rfl
  have h5 : half a 5 = dig a 2 / 4294967296 := rfl
  have h6 : half a 6 = dig a 3 % 4294967296 := rfl
  have h7 : half a 7 = dig a 3 / 4294967296 := rfl
  show 0 + half a 0 * 4294967296 ^ 0 + half a 1 * 4294967296 ^ 1 + half a 2 * 4294967296 ^ 2 + half a 3 * 4294967296 ^ 3 + half a 4 * 4294967296 ^ 4 + half a 5 * 4294967296 ^ 5 + half a 6 * 4294967296 ^ 6 + half a 7 * 4294967296 ^ 7 = a
  rw [h0, h1, h2, h3, h4, h5, h6, h7]
  have p0 : (4294967296 : Nat) ^ 0 = 1 := rfl
  have p1 : (4294967296 : Nat) ^ 1 = 4294967296 := rfl
  have p2 : (4294967296 : Nat) ^ 2 = 18446744073709551616 := rfl
  have p3 : (4294967296 : Nat) ^ 3 = 79228162514264337593543950336 := rfl
  have p4 : (4294967296 : Nat) ^ 4 = 340282366920938463463374607431768211456 := rfl
  have p5 : (4294967296 : Nat) ^ 5 = 1461501637330902918203684832716283019655932542976 := rfl
  have p6 : (4294967296 : Nat) ^ 6 = 6277101735386680763835789423207666416102355444464034512896 := rfl
  have p7 : (4294967296 : Nat) ^ 7 = 26959946667150639794667015087019630673637144422540572481103610249216 := rfl
  rw [p0, p1, p2, p3, p4, p5, p6, p7]
  omega
theorem v32_8_lt (f : Nat → Nat) (h : ∀ j, j < 8 → f j < 4294967296) : v32 8 f < 115792089237316195423570985008687907853269984665640564039457584007913129639936 := by
  have := v32_lt f 8 h
  rwa [show (4294967296 : Nat) ^ 8 = 115792089237316195423570985008687907853269984665640564039457584007913129639936 from rfl] at this
/-- The words of a row's worth. -/
theorem whole_val (f : Nat → Nat) (h : ∀ j, j < 8 → f j < 4294967296) : ∀ i, i < 4 → dig (v32 8 f) i = f (2 * i) + f (2 * i + 1) * 4294967296 := by
  have e : v32 8 f = f 0 + f 1 * 4294967296 + (f 2 + f 3 * 4294967296) * 18446744073709551616 + (f 4 + f 5 * 4294967296) * 340282366920938463463374607431768211456 + (f 6 + f 7 * 4294967296) * 6277101735386680763835789423207666416102355444464034512896 := by
    show 0 + f 0 * 4294967296 ^ 0 + f 1 * 4294967296 ^ 1 + f 2 * 4294967296 ^ 2 + f 3 * 4294967296 ^ 3 + f 4 * 4294967296 ^ 4 + f 5 * 4294967296 ^ 5 + f 6 * 4294967296 ^ 6 + f 7 * 4294967296 ^ 7 = _
    have p0 : (4294967296 : Nat) ^ 0 = 1 := rfl
    have p1 : (4294967296 : Nat) ^ 1 = 4294967296 := rfl
    have p2 : (4294967296 : Nat) ^ 2 = 18446744073709551616 := rfl
    have p3 : (4294967296 : Nat) ^ 3 = 79228162514264337593543950336 := rfl
    have p4 : (4294967296 : Nat) ^ 4 = 340282366920938463463374607431768211456 := rfl
    have p5 : (4294967296 : Nat) ^ 5 = 1461501637330902918203684832716283019655932542976 := rfl
    have p6 : (4294967296 : Nat) ^ 6 = 6277101735386680763835789423207666416102355444464034512896 := rfl
    have p7 : (4294967296 : Nat) ^ 7 = 26959946667150639794667015087019630673637144422540572481103610249216 := rfl
    rw [p0, p1, p2, p3, p4, p5, p6, p7]
    omega
  have l0 := h 0 (by omega)
  have l1 := h 1 (by omega)
  have l2 := h 2 (by omega)
  have l3 := h 3 (by omega)
  have l4 := h 4 (by omega)
  have l5 := h 5 (by omega)
  have l6 := h 6 (by omega)
  have l7 := h 7 (by omega)
  intro i hi
  rw [e]
  rcases (show i = 0 ∨ i = 1 ∨ i = 2 ∨ i = 3 by omega) with rfl | rfl | rfl | rfl
  · rw [dig_0]; show _ = f 0 + f 1 * 4294967296; omega
  · rw [dig_1]; show _ = f 2 + f 3 * 4294967296; omega
  · rw [dig_2]; show _ = f 4 + f 5 * 4294967296; omega
  · rw [dig_3]; show _ = f 6 + f 7 * 4294967296; omega
/-- One step of a row of the product. -/
theorem mul_step (x y c o P : Nat) (h : c + o + x * y = P) (W : Nat) (V V' B X : Nat) (hV : V + c * W = B + X) (hU : V' + o * W = V + P % 4294967296 * W) : V' + P / 4294967296 * (W * 4294967296) = B + (X + x * y * W) := by
  have h1 : P * W = P % 4294967296 * W + P / 4294967296 * (W * 4294967296) := by
    rw [Nat.mul_comm W, ← Nat.mul_assoc, ← Nat.add_mul, Nat.mul_comm (P / 4294967296), Nat.mod_add_div]
  have h2 : P * W = c * W + o * W + x * y * W := by rw [← h, Nat.add_mul, Nat.add_mul]
  omega
theorem mul_small (x y c o : Nat) (hx : x < 4294967296) (hy : y < 4294967296) (hc : c < 4294967296) (ho : o < 4294967296) : c + o + x * y < 18446744073709551616 := by
  have h : x * y ≤ 4294967295 * 4294967295 := Nat.mul_le_mul (by omega) (by omega)
  omega
/-- The product of what has been gone through. -/
def MulO (x y : Nat → Nat) (i : Nat) (o : Nat → Nat) : Prop := (∀ j, j < 16 → o j < 4294967296) ∧ (∀ j, i + 8 ≤ j → o j = 0) ∧ v32 16 o = v32 i x * v32 8 y
def MulI (x y : Nat → Nat) (i q c : Nat) (o : Nat → Nat) : Prop := (∀ j, j < 16 → o j < 4294967296) ∧ (∀ j, i + 8 ≤ j → o j = 0) ∧ c < 4294967296 ∧ v32 16 o + c * 4294967296 ^ (i + q) = v32 i x * v32 8 y + x i * 4294967296 ^ i * v32 q y
theorem MulO.start (x y : Nat → Nat) : MulO x y 0 (fun _ => 0) := ⟨fun _ _ => (by show 0 < 4294967296; omega), fun _ _ => rfl, by rw [v32_zero _ 16 (fun _ _ => rfl)]; show 0 = 0 * _; rw [Nat.zero_mul]⟩
theorem MulO.inner {x y : Nat → Nat} {i : Nat} {o : Nat → Nat} (h : MulO x y i o) : MulI x y i 0 0 o := ⟨h.1, h.2.1, by decide, by rw [h.2.2]; show _ = _ + _ * 0; omega⟩
theorem MulI.room {x y : Nat → Nat} {i q c : Nat} {o : Nat → Nat} (h : MulI x y i q c o) (hi : i < 8) (hq : q < 8) (hx : x i < 4294967296) (hy : y q < 4294967296) : c + o (i + q) + x i * y q < 18446744073709551616 := mul_small _ _ _ _ hx hy h.2.2.1 (h.1 _ (by omega))
theorem MulI.step {x y : Nat → Nat} {i q c : Nat} {o : Nat → Nat} (h : MulI x y i q c o) (hi : i < 8) (hq : q < 8) (hx : x i < 4294967296) (hy : y q < 4294967296) (P : Nat) (hP : P = c + o (i + q) + x i * y q) :
    MulI x y i (q + 1) (P / 4294967296) (upd o (i + q) (P % 4294967296)) := by
  have hr := h.room hi hq hx hy
  rw [← hP] at hr
  refine ⟨fun j hj => ?_, fun j hj => ?_, by omega, ?_⟩
  · unfold upd; split
    · omega
    · exact h.1 j hj
  · unfold upd
    rw [if_neg (by omega)]
    exact h.2.1 j hj
  · have hu := v32_upd o (i + q) (P % 4294967296) 16 (by omega)
    have hs := mul_step (x i) (y q) c (o (i + q)) P hP.symm (4294967296 ^ (i + q)) (v32 16 o) (v32 16 (upd o (i + q) (P % 4294967296))) (v32 i x * v32 8 y) (x i * 4294967296 ^ i * v32 q y) h.2.2.2 hu
    rw [← Nat.add_assoc i q 1, Nat.pow_succ, hs, v32_succ q y, Nat.mul_add (x i * 4294967296 ^ i), Nat.pow_add, Nat.mul_mul_mul_comm]
theorem MulI.outer {x y : Nat → Nat} {i c : Nat} {o : Nat → Nat} (h : MulI x y i 8 c o) (hi : i < 8) : MulO x y (i + 1) (upd o (i + 8) c) := by
  refine ⟨fun j hj => ?_, fun j hj => ?_, ?_⟩
  · unfold upd; split
    · exact h.2.2.1
    · exact h.1 j hj
  · unfold upd
    rw [if_neg (by omega)]
    exact h.2.1 j (by omega)
  · have hu := v32_upd o (i + 8) c 16 (by omega)
    rw [h.2.1 (i + 8) (Nat.le_refl _), Nat.zero_mul, Nat.add_zero, h.2.2.2] at hu
    rw [hu, v32_succ i x, Nat.add_mul]
end Go.Proofs.YtfcnfcolhahghaaDoor
