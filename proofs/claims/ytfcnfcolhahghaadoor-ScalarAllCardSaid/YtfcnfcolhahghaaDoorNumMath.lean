/- Numbers of four words as plain arithmetic: sums, differences, products word by word, and what is left modulo 2^255 less 19. No condition. -/
import Derived.Test.YtfcnfcolhahghaaDoorMem
namespace Go.Proofs.YtfcnfcolhahghaaDoor
open Go.RowKit
set_option linter.unusedVariables false

/-- The words of a number, the lowest first. -/
def dig (N : Nat) : Nat → Nat
  | 0 => N % 18446744073709551616
  | 1 => N / 18446744073709551616 % 18446744073709551616
  | 2 => N / 340282366920938463463374607431768211456 % 18446744073709551616
  | 3 => N / 6277101735386680763835789423207666416102355444464034512896 % 18446744073709551616
  | _ => 0
/-- The number of words. -/
def valN (f : Nat → Nat) : Nat := f 0 + f 1 * 18446744073709551616 + f 2 * 340282366920938463463374607431768211456 + f 3 * 6277101735386680763835789423207666416102355444464034512896
theorem dig_0 (N : Nat) : dig N 0 = N % 18446744073709551616 := rfl
theorem dig_1 (N : Nat) : dig N 1 = N / 18446744073709551616 % 18446744073709551616 := rfl
theorem dig_2 (N : Nat) : dig N 2 = N / 340282366920938463463374607431768211456 % 18446744073709551616 := rfl
theorem dig_3 (N : Nat) : dig N 3 = N / 6277101735386680763835789423207666416102355444464034512896 % 18446744073709551616 := rfl
theorem dig_lt (N : Nat) (j : Nat) : dig N j < 18446744073709551616 := by
  unfold dig
  split <;> first | exact Nat.mod_lt _ (by decide) | decide
theorem val_dig (N : Nat) (h : N < 115792089237316195423570985008687907853269984665640564039457584007913129639936) : valN (dig N) = N := by
  unfold valN
  rw [dig_0, dig_1, dig_2, dig_3]
  omega
theorem dig_val (f : Nat → Nat) (h : ∀ j, f j < 18446744073709551616) (j : Nat) (hj : j < 4) : dig (valN f) j = f j := by
  have h0 := h 0
  have h1 := h 1
  have h2 := h 2
  have h3 := h 3
  unfold valN
  generalize e0 : f 0 = a at *
  generalize e1 : f 1 = b at *
  generalize e2 : f 2 = c at *
  generalize e3 : f 3 = d at *
  rcases (show j = 0 ∨ j = 1 ∨ j = 2 ∨ j = 3 by omega) with rfl | rfl | rfl | rfl
  · rw [dig_0]; omega
  · rw [dig_1]; omega
  · rw [dig_2]; omega
  · rw [dig_3]; omega
/-- A number in memory. -/
def num (N : Nat) : Array Value := (rowOf .u64 4 (dig N)).toArray
theorem num_val (f : Nat → Nat) (h : ∀ j, f j < 18446744073709551616) : num (valN f) = (rowOf .u64 4 f).toArray := by
  unfold num
  rw [rowOf_ext (fun j hj => dig_val f h j hj)]

/-- One step of a sum: a word and n times another one. -/
def plS (n : Nat) (f : Nat → Nat) (s : (Nat → Nat) × Nat) (x : Nat) : (Nat → Nat) × Nat :=
  (upd s.1 x ((f x * n + s.2 + s.1 x) % 18446744073709551616), (f x * n + s.2 + s.1 x) / 18446744073709551616)
def plSt (n : Nat) (f : Nat → Nat) (a : Nat → Nat) (pre : List (Fin 4)) : (Nat → Nat) × Nat := pre.foldl (fun s x => plS n f s x.1) (a, 0)
theorem plSt_snoc (n : Nat) (f : Nat → Nat) (a : Nat → Nat) (pre : List (Fin 4)) (x : Fin 4) : plSt n f a (pre ++ [x]) = plS n f (plSt n f a pre) x.1 := by simp [plSt]
theorem mul_lt2 {x n : Nat} (hx : x < 18446744073709551616) (hn : n < 18446744073709551616) : x * n ≤ 340282366920938463426481119284349108225 :=
  Nat.le_trans (Nat.mul_le_mul (Nat.le_of_lt_succ hx) (Nat.le_of_lt_succ hn)) (by decide)
theorem plS_ok (n : Nat) (f : Nat → Nat) (s : (Nat → Nat) × Nat) (x : Nat) (hn : n < 18446744073709551616) (hf : f x < 18446744073709551616) (h1 : ∀ j, s.1 j < 18446744073709551616) (h2 : s.2 < 18446744073709551616) :
    (∀ j, (plS n f s x).1 j < 18446744073709551616) ∧ (plS n f s x).2 < 18446744073709551616 := by
  have hm := mul_lt2 hf hn
  have hx := h1 x
  refine ⟨fun j => ?_, ?_⟩
  · unfold plS upd
    show (if j = x then _ else _) < _
    split
    · exact Nat.mod_lt _ (by decide)
    · exact h1 j
  · show (f x * n + s.2 + s.1 x) / _ < _
    generalize f x * n = z at *
    omega
theorem plSt_ok (n : Nat) (f a : Nat → Nat) (hn : n < 18446744073709551616) (hf : ∀ j, f j < 18446744073709551616) (ha : ∀ j, a j < 18446744073709551616) :
    ∀ pre, (∀ j, (plSt n f a pre).1 j < 18446744073709551616) ∧ (plSt n f a pre).2 < 18446744073709551616 := by
  have key : ∀ (pre : List (Fin 4)) (s : (Nat → Nat) × Nat), (∀ j, s.1 j < 18446744073709551616) → s.2 < 18446744073709551616 →
      (∀ j, (pre.foldl (fun s x => plS n f s x.1) s).1 j < 18446744073709551616) ∧ (pre.foldl (fun s x => plS n f s x.1) s).2 < 18446744073709551616 := by
    intro pre
    induction pre with
    | nil => exact fun s h1 h2 => ⟨h1, h2⟩
    | cons x pre ih =>
      intro s h1 h2
      have h := plS_ok n f s x.1 hn (hf _) h1 h2
      exact ih _ h.1 h.2
  exact fun pre => key pre (a, 0) ha (show 0 < 18446744073709551616 by decide)
/-- What a step does, word by word. -/
theorem plS_words (y n v a : Nat) (hy : y < 18446744073709551616) (hn : n < 18446744073709551616) (hv : v < 18446744073709551616) (ha : a < 18446744073709551616) :
    ((y * n % 18446744073709551616 + v) % 18446744073709551616 + a) % 18446744073709551616 = (y * n + v + a) % 18446744073709551616 ∧
    ((y * n / 18446744073709551616 + (y * n % 18446744073709551616 + v) / 18446744073709551616) % 18446744073709551616 + ((y * n % 18446744073709551616 + v) % 18446744073709551616 + a) / 18446744073709551616) % 18446744073709551616 = (y * n + v + a) / 18446744073709551616 := by
  have hm := mul_lt2 hy hn
  generalize y * n = z at *
  omega
theorem val_mul (f : Nat → Nat) (n : Nat) : valN f * n = f 0 * n + f 1 * n * 18446744073709551616 + f 2 * n * 340282366920938463463374607431768211456 + f 3 * n * 6277101735386680763835789423207666416102355444464034512896 := by
  unfold valN
  rw [Nat.add_mul, Nat.add_mul, Nat.add_mul, Nat.mul_right_comm, Nat.mul_right_comm (f 2), Nat.mul_right_comm (f 3)]
theorem upd_same (f : Nat → Nat) (k v : Nat) : upd f k v k = v := by unfold upd; rw [if_pos rfl]
theorem upd_ne (f : Nat → Nat) (k v j : Nat) (h : j ≠ k) : upd f k v j = f j := by unfold upd; rw [if_neg h]
theorem fin4 : List.finRange 4 = [0, 1, 2, 3] := by decide
/-- All steps of a sum. -/
theorem plSt_all (a b n : Nat) (ha : a < 115792089237316195423570985008687907853269984665640564039457584007913129639936) (hb : b < 115792089237316195423570985008687907853269984665640564039457584007913129639936) (hn : n < 18446744073709551616) :
    (rowOf .u64 4 (plSt n (dig b) (dig a) (List.finRange 4)).1).toArray = num ((a + b * n) % 115792089237316195423570985008687907853269984665640564039457584007913129639936) ∧
    (plSt n (dig b) (dig a) (List.finRange 4)).2 = (a + b * n) / 115792089237316195423570985008687907853269984665640564039457584007913129639936 := by
  have hok := plSt_ok n (dig b) (dig a) hn (dig_lt b) (dig_lt a) (List.finRange 4)
  rw [← num_val _ hok.1]
  have hv := val_mul (dig b) n
  rw [val_dig b hb] at hv
  have hav := val_dig a ha
  have l0 := mul_lt2 (dig_lt b 0) hn
  have l1 := mul_lt2 (dig_lt b 1) hn
  have l2 := mul_lt2 (dig_lt b 2) hn
  have l3 := mul_lt2 (dig_lt b 3) hn
  have m0 := dig_lt a 0
  have m1 := dig_lt a 1
  have m2 := dig_lt a 2
  have m3 := dig_lt a 3
  rw [fin4]
  have e : plSt n (dig b) (dig a) [0, 1, 2, 3] = plS n (dig b) (plS n (dig b) (plS n (dig b) (plS n (dig b) (dig a, 0) 0) 1) 2) 3 := rfl
  rw [e]
  clear e hok
  unfold valN at hav
  generalize dig a = x at *
  have hp0 : ∃ p, p = dig b 0 * n := ⟨_, rfl⟩
  have hp1 : ∃ p, p = dig b 1 * n := ⟨_, rfl⟩
  have hp2 : ∃ p, p = dig b 2 * n := ⟨_, rfl⟩
  have hp3 : ∃ p, p = dig b 3 * n := ⟨_, rfl⟩
  obtain ⟨p0, hp0⟩ := hp0
  obtain ⟨p1, hp1⟩ := hp1
  obtain ⟨p2, hp2⟩ := hp2
  obtain ⟨p3, hp3⟩ := hp3
  rw [← hp0, ← hp1, ← hp2, ← hp3] at hv
  rw [← hp0] at l0
  rw [← hp1] at l1
  rw [← hp2] at l2
  rw [← hp3] at l3
  rw [hv]
  have e1 : plS n (dig b) (x, 0) 0 = (upd x 0 ((p0 + x 0) % 18446744073709551616), (p0 + x 0) / 18446744073709551616) := by unfold plS; rw [hp0]; rfl
  rw [e1]
  obtain ⟨c1, hc1⟩ : ∃ c, c = (p0 + x 0) / 18446744073709551616 := ⟨_, rfl⟩
  rw [← hc1]
  have e2 : plS n (dig b) (upd x 0 ((p0 + x 0) % 18446744073709551616), c1) 1 = (upd (upd x 0 ((p0 + x 0) % 18446744073709551616)) 1 ((p1 + c1 + x 1) % 18446744073709551616), (p1 + c1 + x 1) / 18446744073709551616) := by unfold plS; rw [hp1]; rfl
  rw [e2]
  obtain ⟨c2, hc2⟩ : ∃ c, c = (p1 + c1 + x 1) / 18446744073709551616 := ⟨_, rfl⟩
  rw [← hc2]
  have e3 : plS n (dig b) (upd (upd x 0 ((p0 + x 0) % 18446744073709551616)) 1 ((p1 + c1 + x 1) % 18446744073709551616), c2) 2 = (upd (upd (upd x 0 ((p0 + x 0) % 18446744073709551616)) 1 ((p1 + c1 + x 1) % 18446744073709551616)) 2 ((p2 + c2 + x 2) % 18446744073709551616), (p2 + c2 + x 2) / 18446744073709551616) := by unfold plS; rw [hp2]; rfl
  rw [e3]
  obtain ⟨c3, hc3⟩ : ∃ c, c = (p2 + c2 + x 2) / 18446744073709551616 := ⟨_, rfl⟩
  rw [← hc3]
  have e4 : plS n (dig b) (upd (upd (upd x 0 ((p0 + x 0) % 18446744073709551616)) 1 ((p1 + c1 + x 1) % 18446744073709551616)) 2 ((p2 + c2 + x 2) % 18446744073709551616), c3) 3 = (upd (upd (upd (upd x 0 ((p0 + x 0) % 18446744073709551616)) 1 ((p1 + c1 + x 1) % 18446744073709551616)) 2 ((p2 + c2 + x 2) % 18446744073709551616)) 3 ((p3 + c3 + x 3) % 18446744073709551616), (p3 + c3 + x 3) / 18446744073709551616) := by unfold plS; rw [hp3]; rfl
  rw [e4]
  have e5 : valN (upd (upd (upd (upd x 0 ((p0 + x 0) % 18446744073709551616)) 1 ((p1 + c1 + x 1) % 18446744073709551616)) 2 ((p2 + c2 + x 2) % 18446744073709551616)) 3 ((p3 + c3 + x 3) % 18446744073709551616)) = (p0 + x 0) % 18446744073709551616 + ((p1 + c1 + x 1) % 18446744073709551616) * 18446744073709551616 + ((p2 + c2 + x 2) % 18446744073709551616) * 340282366920938463463374607431768211456 + ((p3 + c3 + x 3) % 18446744073709551616) * 6277101735386680763835789423207666416102355444464034512896 := rfl
  rw [e5]
  clear e1 e2 e3 e4 e5 hp0 hp1 hp2 hp3 hb
  generalize x 0 = x0 at *
  generalize x 1 = x1 at *
  generalize x 2 = x2 at *
  generalize x 3 = x3 at *
  refine ⟨congrArg num ?_, ?_⟩
  · omega
  · show (p3 + c3 + x3) / 18446744073709551616 = _
    omega
/-- One step of a difference. -/
def miS (f : Nat → Nat) (s : (Nat → Nat) × Nat) (x : Nat) : (Nat → Nat) × Nat :=
  (upd s.1 x ((s.1 x + 18446744073709551616 - f x - s.2) % 18446744073709551616), if s.1 x < f x + s.2 then 1 else 0)
def miSt (f : Nat → Nat) (a : Nat → Nat) (pre : List (Fin 4)) : (Nat → Nat) × Nat := pre.foldl (fun s x => miS f s x.1) (a, 0)
theorem miSt_snoc (f : Nat → Nat) (a : Nat → Nat) (pre : List (Fin 4)) (x : Fin 4) : miSt f a (pre ++ [x]) = miS f (miSt f a pre) x.1 := by simp [miSt]
theorem miS_ok (f : Nat → Nat) (s : (Nat → Nat) × Nat) (x : Nat) (h1 : ∀ j, s.1 j < 18446744073709551616) : (∀ j, (miS f s x).1 j < 18446744073709551616) ∧ (miS f s x).2 ≤ 1 := by
  refine ⟨fun j => ?_, ?_⟩
  · unfold miS upd
    show (if j = x then _ else _) < _
    split
    · exact Nat.mod_lt _ (by decide)
    · exact h1 j
  · show (if s.1 x < f x + s.2 then 1 else 0) ≤ 1
    split <;> decide
theorem miSt_ok (f a : Nat → Nat) (ha : ∀ j, a j < 18446744073709551616) : ∀ pre, (∀ j, (miSt f a pre).1 j < 18446744073709551616) ∧ (miSt f a pre).2 ≤ 1 := by
  have key : ∀ (pre : List (Fin 4)) (s : (Nat → Nat) × Nat), (∀ j, s.1 j < 18446744073709551616) → s.2 ≤ 1 →
      (∀ j, (pre.foldl (fun s x => miS f s x.1) s).1 j < 18446744073709551616) ∧ (pre.foldl (fun s x => miS f s x.1) s).2 ≤ 1 := by
    intro pre
    induction pre with
    | nil => exact fun s h1 h2 => ⟨h1, h2⟩
    | cons x pre ih =>
      intro s h1 h2
      have h := miS_ok f s x.1 h1
      exact ih _ h.1 h.2
  exact fun pre => key pre (a, 0) ha (show 0 ≤ 1 by decide)
/-- All steps of a difference. -/
theorem miSt_all (a b : Nat) (ha : a < 115792089237316195423570985008687907853269984665640564039457584007913129639936) (hb : b < 115792089237316195423570985008687907853269984665640564039457584007913129639936) :
    (rowOf .u64 4 (miSt (dig b) (dig a) (List.finRange 4)).1).toArray = num ((a + 115792089237316195423570985008687907853269984665640564039457584007913129639936 - b) % 115792089237316195423570985008687907853269984665640564039457584007913129639936) ∧
    (miSt (dig b) (dig a) (List.finRange 4)).2 = if a < b then 1 else 0 := by
  have hok := miSt_ok (dig b) (dig a) (dig_lt a) (List.finRange 4)
  rw [← num_val _ hok.1]
  have hv := val_dig b hb
  have hav := val_dig a ha
  have l0 := dig_lt b 0
  have l1 := dig_lt b 1
  have l2 := dig_lt b 2
  have l3 := dig_lt b 3
  have m0 := dig_lt a 0
  have m1 := dig_lt a 1
  have m2 := dig_lt a 2
  have m3 := dig_lt a 3
  rw [fin4]
  have e : miSt (dig b) (dig a) [0, 1, 2, 3] = miS (dig b) (miS (dig b) (miS (dig b) (miS (dig b) (dig a, 0) 0) 1) 2) 3 := rfl
  rw [e]
  clear e hok
  unfold valN at hav hv
  generalize dig a = x at *
  generalize dig b = y at *
  have hc : ∀ u v c : Nat, u < 18446744073709551616 → v < 18446744073709551616 → c ≤ 1 → ∃ d c2 : Nat, d = (u + 18446744073709551616 - v - c) % 18446744073709551616 ∧ c2 = (if u < v + c then 1 else 0) ∧ u + c2 * 18446744073709551616 = v + c + d ∧ d < 18446744073709551616 ∧ c2 ≤ 1 := by
    intro u v c h1 h2 h3
    refine ⟨_, _, rfl, rfl, ?_, Nat.mod_lt _ (by decide), ?_⟩
    · split <;> omega
    · split <;> decide
  obtain ⟨d0, c1, hd0, hc1, q0, r0, s0⟩ := hc (x 0) (y 0) 0 m0 l0 (by decide)
  obtain ⟨d1, c2, hd1, hc2, q1, r1, s1⟩ := hc (x 1) (y 1) c1 m1 l1 s0
  obtain ⟨d2, c3, hd2, hc3, q2, r2, s2⟩ := hc (x 2) (y 2) c2 m2 l2 s1
  obtain ⟨d3, c4, hd3, hc4, q3, r3, s3⟩ := hc (x 3) (y 3) c3 m3 l3 s2
  have e1 : miS y (x, 0) 0 = (upd x 0 d0, c1) := by rw [hd0, hc1]; rfl
  have e2 : miS y (upd x 0 d0, c1) 1 = (upd (upd x 0 d0) 1 d1, c2) := by rw [hd1, hc2]; rfl
  have e3 : miS y (upd (upd x 0 d0) 1 d1, c2) 2 = (upd (upd (upd x 0 d0) 1 d1) 2 d2, c3) := by rw [hd2, hc3]; rfl
  have e4 : miS y (upd (upd (upd x 0 d0) 1 d1) 2 d2, c3) 3 = (upd (upd (upd (upd x 0 d0) 1 d1) 2 d2) 3 d3, c4) := by rw [hd3, hc4]; rfl
  rw [e1, e2, e3, e4]
  have e5 : valN (upd (upd (upd (upd x 0 d0) 1 d1) 2 d2) 3 d3) = d0 + d1 * 18446744073709551616 + d2 * 340282366920938463463374607431768211456 + d3 * 6277101735386680763835789423207666416102355444464034512896 := rfl
  rw [e5]
  show num _ = _ ∧ c4 = _
  clear e1 e2 e3 e4 e5 hc hd0 hd1 hd2 hd3 hc1 hc2 hc3 hc4
  generalize x 0 = x0 at *
  generalize x 1 = x1 at *
  generalize x 2 = x2 at *
  generalize x 3 = x3 at *
  generalize y 0 = y0 at *
  generalize y 1 = y1 at *
  generalize y 2 = y2 at *
  generalize y 3 = y3 at *
  have hT : a + c4 * 115792089237316195423570985008687907853269984665640564039457584007913129639936 = b + (d0 + d1 * 18446744073709551616 + d2 * 340282366920938463463374607431768211456 + d3 * 6277101735386680763835789423207666416102355444464034512896) := by omega
  have hD : d0 + d1 * 18446744073709551616 + d2 * 340282366920938463463374607431768211456 + d3 * 6277101735386680763835789423207666416102355444464034512896 < 115792089237316195423570985008687907853269984665640564039457584007913129639936 := by omega
  generalize d0 + d1 * 18446744073709551616 + d2 * 340282366920938463463374607431768211456 + d3 * 6277101735386680763835789423207666416102355444464034512896 = D at *
  clear hav hv q0 q1 q2 q3
  refine ⟨congrArg num ?_, ?_⟩
  · omega
  · split <;> omega
/-- One step of a product: what stands so far, with a times one more word. -/
def prS (a : Nat) (f : Nat → Nat) (s : (Nat → Nat) × Nat) (x : Nat) : (Nat → Nat) × Nat :=
  (upd s.1 x ((s.2 + a * f x) % 18446744073709551616), (s.2 + a * f x) / 18446744073709551616)
def prSt (a : Nat) (f : Nat → Nat) (pre : List (Fin 4)) : (Nat → Nat) × Nat := pre.foldl (fun s x => prS a f s x.1) (fun _ => 0, 0)
theorem prSt_snoc (a : Nat) (f : Nat → Nat) (pre : List (Fin 4)) (x : Fin 4) : prSt a f (pre ++ [x]) = prS a f (prSt a f pre) x.1 := by simp [prSt]
theorem mul_lt4 {a n : Nat} (ha : a < 115792089237316195423570985008687907853269984665640564039457584007913129639936) (hn : n < 18446744073709551616) : a * n ≤ 115792089237316195423570985008687907853269984665640564039457584007913129639935 * 18446744073709551615 :=
  Nat.mul_le_mul (Nat.le_of_lt_succ ha) (Nat.le_of_lt_succ hn)
theorem prS_ok (a : Nat) (f : Nat → Nat) (s : (Nat → Nat) × Nat) (x : Nat) (ha : a < 115792089237316195423570985008687907853269984665640564039457584007913129639936) (hf : f x < 18446744073709551616) (h1 : ∀ j, s.1 j < 18446744073709551616) (h2 : s.2 < 115792089237316195423570985008687907853269984665640564039457584007913129639936) :
    (∀ j, (prS a f s x).1 j < 18446744073709551616) ∧ (prS a f s x).2 < 115792089237316195423570985008687907853269984665640564039457584007913129639936 := by
  have hm := mul_lt4 ha hf
  refine ⟨fun j => ?_, ?_⟩
  · unfold prS upd
    show (if j = x then _ else _) < _
    split
    · exact Nat.mod_lt _ (by decide)
    · exact h1 j
  · show (s.2 + a * f x) / _ < _
    generalize a * f x = z at *
    omega
theorem prSt_ok (a : Nat) (f : Nat → Nat) (ha : a < 115792089237316195423570985008687907853269984665640564039457584007913129639936) (hf : ∀ j, f j < 18446744073709551616) :
    ∀ pre, (∀ j, (prSt a f pre).1 j < 18446744073709551616) ∧ (prSt a f pre).2 < 115792089237316195423570985008687907853269984665640564039457584007913129639936 := by
  have key : ∀ (pre : List (Fin 4)) (s : (Nat → Nat) × Nat), (∀ j, s.1 j < 18446744073709551616) → s.2 < 115792089237316195423570985008687907853269984665640564039457584007913129639936 →
      (∀ j, (pre.foldl (fun s x => prS a f s x.1) s).1 j < 18446744073709551616) ∧ (pre.foldl (fun s x => prS a f s x.1) s).2 < 115792089237316195423570985008687907853269984665640564039457584007913129639936 := by
    intro pre
    induction pre with
    | nil => exact fun s h1 h2 => ⟨h1, h2⟩
    | cons x pre ih =>
      intro s h1 h2
      have h := prS_ok a f s x.1 ha (hf _) h1 h2
      exact ih _ h.1 h.2
  exact fun pre => key pre (fun _ => 0, 0) (fun _ => (show 0 < 18446744073709551616 by decide)) (show 0 < 115792089237316195423570985008687907853269984665640564039457584007913129639936 by decide)
/-- All steps of a product. -/
theorem prSt_all (a b : Nat) (ha : a < 115792089237316195423570985008687907853269984665640564039457584007913129639936) (hb : b < 115792089237316195423570985008687907853269984665640564039457584007913129639936) :
    (rowOf .u64 4 (prSt a (dig b) (List.finRange 4)).1).toArray = num (a * b % 115792089237316195423570985008687907853269984665640564039457584007913129639936) ∧
    (prSt a (dig b) (List.finRange 4)).2 = a * b / 115792089237316195423570985008687907853269984665640564039457584007913129639936 := by
  have hok := prSt_ok a (dig b) ha (dig_lt b) (List.finRange 4)
  rw [← num_val _ hok.1]
  have hv := val_mul (dig b) a
  rw [val_dig b hb] at hv
  have l0 := mul_lt4 ha (dig_lt b 0)
  have l1 := mul_lt4 ha (dig_lt b 1)
  have l2 := mul_lt4 ha (dig_lt b 2)
  have l3 := mul_lt4 ha (dig_lt b 3)
  rw [fin4]
  have e : prSt a (dig b) [0, 1, 2, 3] = prS a (dig b) (prS a (dig b) (prS a (dig b) (prS a (dig b) (fun _ => 0, 0) 0) 1) 2) 3 := rfl
  rw [e]
  clear e hok
  rw [Nat.mul_comm b a] at hv
  rw [hv]
  rw [Nat.mul_comm _ a, Nat.mul_comm _ a, Nat.mul_comm _ a, Nat.mul_comm _ a]
  obtain ⟨p0, hp0⟩ : ∃ p, p = a * dig b 0 := ⟨_, rfl⟩
  obtain ⟨p1, hp1⟩ : ∃ p, p = a * dig b 1 := ⟨_, rfl⟩
  obtain ⟨p2, hp2⟩ : ∃ p, p = a * dig b 2 := ⟨_, rfl⟩
  obtain ⟨p3, hp3⟩ : ∃ p, p = a * dig b 3 := ⟨_, rfl⟩
  have e1 : prS a (dig b) (fun _ => 0, 0) 0 = (upd (fun _ => 0) 0 ((0 + p0) % 18446744073709551616), (0 + p0) / 18446744073709551616) := by unfold prS; rw [hp0]
  rw [e1]
  obtain ⟨c1, hc1⟩ : ∃ c, c = (0 + p0) / 18446744073709551616 := ⟨_, rfl⟩
  rw [← hc1]
  have e2 : ∀ g : Nat → Nat, prS a (dig b) (g, c1) 1 = (upd g 1 ((c1 + p1) % 18446744073709551616), (c1 + p1) / 18446744073709551616) := by intro g; unfold prS; rw [hp1]
  rw [e2]
  obtain ⟨c2, hc2⟩ : ∃ c, c = (c1 + p1) / 18446744073709551616 := ⟨_, rfl⟩
  rw [← hc2]
  have e3 : ∀ g : Nat → Nat, prS a (dig b) (g, c2) 2 = (upd g 2 ((c2 + p2) % 18446744073709551616), (c2 + p2) / 18446744073709551616) := by intro g; unfold prS; rw [hp2]
  rw [e3]
  obtain ⟨c3, hc3⟩ : ∃ c, c = (c2 + p2) / 18446744073709551616 := ⟨_, rfl⟩
  rw [← hc3]
  have e4 : ∀ g : Nat → Nat, prS a (dig b) (g, c3) 3 = (upd g 3 ((c3 + p3) % 18446744073709551616), (c3 + p3) / 18446744073709551616) := by intro g; unfold prS; rw [hp3]
  rw [e4]
  rw [← hp0, ← hp1, ← hp2, ← hp3]
  rw [← hp0] at l0
  rw [← hp1] at l1
  rw [← hp2] at l2
  rw [← hp3] at l3
  have e5 : valN (upd (upd (upd (upd (fun _ => 0) 0 ((0 + p0) % 18446744073709551616)) 1 ((c1 + p1) % 18446744073709551616)) 2 ((c2 + p2) % 18446744073709551616)) 3 ((c3 + p3) % 18446744073709551616)) = (0 + p0) % 18446744073709551616 + ((c1 + p1) % 18446744073709551616) * 18446744073709551616 + ((c2 + p2) % 18446744073709551616) * 340282366920938463463374607431768211456 + ((c3 + p3) % 18446744073709551616) * 6277101735386680763835789423207666416102355444464034512896 := rfl
  rw [e5]
  clear e1 e2 e3 e4 e5 hp0 hp1 hp2 hp3 hb ha hv
  refine ⟨congrArg num ?_, ?_⟩
  · omega
  · show (c3 + p3) / 18446744073709551616 = _
    omega
end Go.Proofs.YtfcnfcolhahghaaDoor
