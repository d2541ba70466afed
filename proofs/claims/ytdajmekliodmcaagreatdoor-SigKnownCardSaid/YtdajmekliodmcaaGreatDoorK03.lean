/- Several texts, one behind the other; each says by itself what it proves, and on what conditions. -/
import Derived.Test.YtdajmekliodmcaaGreatDoorK02
import Derived.RangeFuncNested
import Derived.RangeFuncBound
import Derived.RangeFuncCalls
import Derived.RangeFuncLeaves
import Derived.RangeFuncFrom
import Derived.Shelf.Abstract
import Derived.Shelf.RegionOpen
import Derived.OwnWalkIn
import Derived.TacticsInMore
import Derived.LoopNIn
import Derived.LoopIn
import Derived.RegionIn
import Derived.RegionTactic
import Derived.Deep.RegionWith
import Derived.Deep.RegionHeld3
import Derived.Laws.Externs
import Derived.Shelf.Spec.BitsCarry
namespace Go.Proofs.YtdajmekliodmcaaGreatDoor.P8
set_option linter.unusedSimpArgs false
open Go.RowKit
set_option linter.unusedVariables false
def dig (N : Nat) : Nat → Nat
  | 0 => N % 18446744073709551616
  | 1 => N / 18446744073709551616 % 18446744073709551616
  | 2 => N / 340282366920938463463374607431768211456 % 18446744073709551616
  | 3 => N / 6277101735386680763835789423207666416102355444464034512896 % 18446744073709551616
  | _ => 0
def valN (f : Nat → Nat) : Nat := f 0 + f 1 * 18446744073709551616 + f 2 * 340282366920938463463374607431768211456 + f 3 * 6277101735386680763835789423207666416102355444464034512896
theorem dig_0 (N : Nat) : dig N 0 = N % 18446744073709551616 := rfl
theorem dig_1 (N : Nat) : dig N 1 = N / 18446744073709551616 % 18446744073709551616 := rfl
theorem dig_2 (N : Nat) : dig N 2 = N / 340282366920938463463374607431768211456 % 18446744073709551616 := rfl
theorem dig_3 (N : Nat) : dig N 3 = N / 6277101735386680763835789423207666416102355444464034512896 % 18446744073709551616 := rfl
theorem dig_lt (N : Nat) (j : Nat) : dig N j < 18446744073709551616 := by
  unfold dig
  split <;> first | exact Nat.mod_lt _ (by decide) | decide
theorem val_dig (N : Nat) (h : N < 115792089237316195423570985008687907853269984665640564039457584007913129639936) : valN (dig N) = N := by
  unfold valN
  rw [dig_0, dig_1, dig_2, dig_3]
  omega
theorem dig_val (f : Nat → Nat) (h : ∀ j, f j < 18446744073709551616) (j : Nat) (hj : j < 4) : dig (valN f) j = f j := by
  have h0 := h 0
  have h1 := h 1
  have h2 := h 2
  have h3 := h 3
  unfold valN
  generalize e0 : f 0 = a at *
  generalize e1 : f 1 = b at *
  generalize e2 : f 2 = c at *
  generalize e3 : f 3 = d at *
  rcases (show j = 0 ∨ j = 1 ∨ j = 2 ∨ j = 3 by omega) with rfl | rfl | rfl | rfl
  · rw [dig_0]; omega
  · rw [dig_1]; omega
  · rw [dig_2]; omega
  · rw [dig_3]; omega
def num (N : Nat) : Array Value := (rowOf .u64 4 (dig N)).toArray
theorem num_val (f : Nat → Nat) (h : ∀ j, f j < 18446744073709551616) : num (valN f) = (rowOf .u64 4 f).toArray := by
  unfold num
  rw [rowOf_ext (fun j hj => dig_val f h j hj)]
def plS (n : Nat) (f : Nat → Nat) (s : (Nat → Nat) × Nat) (x : Nat) : (Nat → Nat) × Nat :=
  (upd s.1 x ((f x * n + s.2 + s.1 x) % 18446744073709551616), (f x * n + s.2 + s.1 x) / 18446744073709551616)
def plSt (n : Nat) (f : Nat → Nat) (a : Nat → Nat) (pre : List (Fin 4)) : (Nat → Nat) × Nat := pre.foldl (fun s x => plS n f s x.1) (a, 0)
theorem plSt_snoc (n : Nat) (f : Nat → Nat) (a : Nat → Nat) (pre : List (Fin 4)) (x : Fin 4) : plSt n f a (pre ++ [x]) = plS n f (plSt n f a pre) x.1 := by simp [plSt]
theorem mul_lt2 {x n : Nat} (hx : x < 18446744073709551616) (hn : n < 18446744073709551616) : x * n ≤ 340282366920938463426481119284349108225 :=
  Nat.le_trans (Nat.mul_le_mul (Nat.le_of_lt_succ hx) (Nat.le_of_lt_succ hn)) (by decide)
theorem plS_ok (n : Nat) (f : Nat → Nat) (s : (Nat → Nat) × Nat) (x : Nat) (hn : n < 18446744073709551616) (hf : f x < 18446744073709551616) (h1 : ∀ j, s.1 j < 18446744073709551616) (h2 : s.2 < 18446744073709551616) :
    (∀ j, (plS n f s x).1 j < 18446744073709551616) ∧ (plS n f s x).2 < 18446744073709551616 := by
  have hm := mul_lt2 hf hn
  have hx := h1 x
  refine ⟨fun j => ?_, ?_⟩
  · unfold plS upd
    show (if j = x then _ else _) < _
    split
    · exact Nat.mod_lt _ (by decide)
    · exact h1 j
  · show (f x * n + s.2 + s.1 x) / _ < _
    generalize f x * n = z at *
    omega
theorem plSt_ok (n : Nat) (f a : Nat → Nat) (hn : n < 18446744073709551616) (hf : ∀ j, f j < 18446744073709551616) (ha : ∀ j, a j < 18446744073709551616) :
    ∀ pre, (∀ j, (plSt n f a pre).1 j < 18446744073709551616) ∧ (plSt n f a pre).2 < 18446744073709551616 := by
  have key : ∀ (pre : List (Fin 4)) (s : (Nat → Nat) × Nat), (∀ j, s.1 j < 18446744073709551616) → s.2 < 18446744073709551616 →
      (∀ j, (pre.foldl (fun s x => plS n f s x.1) s).1 j < 18446744073709551616) ∧ (pre.foldl (fun s x => plS n f s x.1) s).2 < 18446744073709551616 := by
    intro pre
    induction pre with
    | nil => exact fun s h1 h2 => ⟨h1, h2⟩
    | cons x pre ih =>
      intro s h1 h2
      have h := plS_ok n f s x.1 hn (hf _) h1 h2
      exact ih _ h.1 h.2
  exact fun pre => key pre (a, 0) ha (show 0 < 18446744073709551616 by decide)
theorem plS_words (y n v a : Nat) (hy : y < 18446744073709551616) (hn : n < 18446744073709551616) (hv : v < 18446744073709551616) (ha : a < 18446744073709551616) :
    ((y * n % 18446744073709551616 + v) % 18446744073709551616 + a) % 18446744073709551616 = (y * n + v + a) % 18446744073709551616 ∧
    ((y * n / 18446744073709551616 + (y * n % 18446744073709551616 + v) / 18446744073709551616) % 18446744073709551616 + ((y * n % 18446744073709551616 + v) % 18446744073709551616 + a) / 18446744073709551616) % 18446744073709551616 = (y * n + v + a) / 18446744073709551616 := by
  have hm := mul_lt2 hy hn
  generalize y * n = z at *
  omega
theorem val_mul (f : Nat → Nat) (n : Nat) : valN f * n = f 0 * n + f 1 * n * 18446744073709551616 + f 2 * n * 340282366920938463463374607431768211456 + f 3 * n * 6277101735386680763835789423207666416102355444464034512896 := by
  unfold valN
  rw [Nat.add_mul, Nat.add_mul, Nat.add_mul, Nat.mul_right_comm, Nat.mul_right_comm (f 2), Nat.mul_right_comm (f 3)]
theorem upd_same (f : Nat → Nat) (k v : Nat) : upd f k v k = v := by unfold upd; rw [if_pos rfl]
theorem fin4 : List.finRange 4 = [0, 1, 2, 3] := by decide
theorem plSt_all (a b n : Nat) (ha : a < 115792089237316195423570985008687907853269984665640564039457584007913129639936) (hb : b < 115792089237316195423570985008687907853269984665640564039457584007913129639936) (hn : n < 18446744073709551616) :
    (rowOf .u64 4 (plSt n (dig b) (dig a) (List.finRange 4)).1).toArray = num ((a + b * n) % 115792089237316195423570985008687907853269984665640564039457584007913129639936) ∧
    (plSt n (dig b) (dig a) (List.finRange 4)).2 = (a + b * n) / 115792089237316195423570985008687907853269984665640564039457584007913129639936 := by
  have hok := plSt_ok n (dig b) (dig a) hn (dig_lt b) (dig_lt a) (List.finRange 4)
  rw [← num_val _ hok.1]
  have hv := val_mul (dig b) n
  rw [val_dig b hb] at hv
  have hav := val_dig a ha
  have l0 := mul_lt2 (dig_lt b 0) hn
  have l1 := mul_lt2 (dig_lt b 1) hn
  have l2 := mul_lt2 (dig_lt b 2) hn
  have l3 := mul_lt2 (dig_lt b 3) hn
  have m0 := dig_lt a 0
  have m1 := dig_lt a 1
  have m2 := dig_lt a 2
  have m3 := dig_lt a 3
  rw [fin4]
  have e : plSt n (dig b) (dig a) [0, 1, 2, 3] = plS n (dig b) (plS n (dig b) (plS n (dig b) (plS n (dig b) (dig a, 0) 0) 1) 2) 3 := rfl
  rw [e]
  clear e hok
  unfold valN at hav
  generalize dig a = x at *
  have hp0 : ∃ p, p = dig b 0 * n := ⟨_, rfl⟩
  have hp1 : ∃ p, p = dig b 1 * n := ⟨_, rfl⟩
  have hp2 : ∃ p, p = dig b 2 * n := ⟨_, rfl⟩
  have hp3 : ∃ p, p = dig b 3 * n := ⟨_, rfl⟩
  obtain ⟨p0, hp0⟩ := hp0
  obtain ⟨p1, hp1⟩ := hp1
  obtain ⟨p2, hp2⟩ := hp2
  obtain ⟨p3, hp3⟩ := hp3
  rw [← hp0, ← hp1, ← hp2, ← hp3] at hv
  rw [← hp0] at l0
  rw [← hp1] at l1
  rw [← hp2] at l2
  rw [← hp3] at l3
  rw [hv]
  have e1 : plS n (dig b) (x, 0) 0 = (upd x 0 ((p0 + x 0) % 18446744073709551616), (p0 + x 0) / 18446744073709551616) := by unfold plS; rw [hp0]; rfl
  rw [e1]
  obtain ⟨c1, hc1⟩ : ∃ c, c = (p0 + x 0) / 18446744073709551616 := ⟨_, rfl⟩
  rw [← hc1]
  have e2 : plS n (dig b) (upd x 0 ((p0 + x 0) % 18446744073709551616), c1) 1 = (upd (upd x 0 ((p0 + x 0) % 18446744073709551616)) 1 ((p1 + c1 + x 1) % 18446744073709551616), (p1 + c1 + x 1) / 18446744073709551616) := by unfold plS; rw [hp1]; rfl
  rw [e2]
  obtain ⟨c2, hc2⟩ : ∃ c, c = (p1 + c1 + x 1) / 18446744073709551616 := ⟨_, rfl⟩
  rw [← hc2]
  have e3 : plS n (dig b) (upd (upd x 0 ((p0 + x 0) % 18446744073709551616)) 1 ((p1 + c1 + x 1) % 18446744073709551616), c2) 2 = (upd (upd (upd x 0 ((p0 + x 0) % 18446744073709551616)) 1 ((p1 + c1 + x 1) % 18446744073709551616)) 2 ((p2 + c2 + x 2) % 18446744073709551616), (p2 + c2 + x 2) / 18446744073709551616) := by unfold plS; rw [hp2]; rfl
  rw [e3]
  obtain ⟨c3, hc3⟩ : ∃ c, c = (p2 + c2 + x 2) / 18446744073709551616 := ⟨_, rfl⟩
  rw [← hc3]
  have e4 : plS n (dig b) (upd (upd (upd x 0 ((p0 + x 0) % 18446744073709551616)) 1 ((p1 + c1 + x 1) % 18446744073709551616)) 2 ((p2 + c2 + x 2) % 18446744073709551616), c3) 3 = (upd (upd (upd (upd x 0 ((p0 + x 0) % 18446744073709551616)) 1 ((p1 + c1 + x 1) % 18446744073709551616)) 2 ((p2 + c2 + x 2) % 18446744073709551616)) 3 ((p3 + c3 + x 3) % 18446744073709551616), (p3 + c3 + x 3) / 18446744073709551616) := by unfold plS; rw [hp3]; rfl
  rw [e4]
  have e5 : valN (upd (upd (upd (upd x 0 ((p0 + x 0) % 18446744073709551616)) 1 ((p1 + c1 + x 1) % 18446744073709551616)) 2 ((p2 + c2 + x 2) % 18446744073709551616)) 3 ((p3 + c3 + x 3) % 18446744073709551616)) = (p0 + x 0) % 18446744073709551616 + ((p1 + c1 + x 1) % 18446744073709551616) * 18446744073709551616 + ((p2 + c2 + x 2) % 18446744073709551616) * 340282366920938463463374607431768211456 + ((p3 + c3 + x 3) % 18446744073709551616) * 6277101735386680763835789423207666416102355444464034512896 := rfl
  rw [e5]
  clear e1 e2 e3 e4 e5 hp0 hp1 hp2 hp3 hb
  generalize x 0 = x0 at *
  generalize x 1 = x1 at *
  generalize x 2 = x2 at *
  generalize x 3 = x3 at *
  refine ⟨congrArg num ?_, ?_⟩
  · omega
  · show (p3 + c3 + x3) / 18446744073709551616 = _
    omega
def miS (f : Nat → Nat) (s : (Nat → Nat) × Nat) (x : Nat) : (Nat → Nat) × Nat :=
  (upd s.1 x ((s.1 x + 18446744073709551616 - f x - s.2) % 18446744073709551616), if s.1 x < f x + s.2 then 1 else 0)
def miSt (f : Nat → Nat) (a : Nat → Nat) (pre : List (Fin 4)) : (Nat → Nat) × Nat := pre.foldl (fun s x => miS f s x.1) (a, 0)
theorem miSt_snoc (f : Nat → Nat) (a : Nat → Nat) (pre : List (Fin 4)) (x : Fin 4) : miSt f a (pre ++ [x]) = miS f (miSt f a pre) x.1 := by simp [miSt]
theorem miS_ok (f : Nat → Nat) (s : (Nat → Nat) × Nat) (x : Nat) (h1 : ∀ j, s.1 j < 18446744073709551616) : (∀ j, (miS f s x).1 j < 18446744073709551616) ∧ (miS f s x).2 ≤ 1 := by
  refine ⟨fun j => ?_, ?_⟩
  · unfold miS upd
    show (if j = x then _ else _) < _
    split
    · exact Nat.mod_lt _ (by decide)
    · exact h1 j
  · show (if s.1 x < f x + s.2 then 1 else 0) ≤ 1
    split <;> decide
theorem miSt_ok (f a : Nat → Nat) (ha : ∀ j, a j < 18446744073709551616) : ∀ pre, (∀ j, (miSt f a pre).1 j < 18446744073709551616) ∧ (miSt f a pre).2 ≤ 1 := by
  have key : ∀ (pre : List (Fin 4)) (s : (Nat → Nat) × Nat), (∀ j, s.1 j < 18446744073709551616) → s.2 ≤ 1 →
      (∀ j, (pre.foldl (fun s x => miS f s x.1) s).1 j < 18446744073709551616) ∧ (pre.foldl (fun s x => miS f s x.1) s).2 ≤ 1 := by
    intro pre
    induction pre with
    | nil => exact fun s h1 h2 => ⟨h1, h2⟩
    | cons x pre ih =>
      intro s h1 h2
      have h := miS_ok f s x.1 h1
      exact ih _ h.1 h.2
  exact fun pre => key pre (a, 0) ha (show 0 ≤ 1 by decide)
theorem miSt_all (a b : Nat) (ha : a < 115792089237316195423570985008687907853269984665640564039457584007913129639936) (hb : b < 115792089237316195423570985008687907853269984665640564039457584007913129639936) :
    (rowOf .u64 4 (miSt (dig b) (dig a) (List.finRange 4)).1).toArray = num ((a + 115792089237316195423570985008687907853269984665640564039457584007913129639936 - b) % 115792089237316195423570985008687907853269984665640564039457584007913129639936) ∧
    (miSt (dig b) (dig a) (List.finRange 4)).2 = if a < b then 1 else 0 := by
  have hok := miSt_ok (dig b) (dig a) (dig_lt a) (List.finRange 4)
  rw [← num_val _ hok.1]
  have hv := val_dig b hb
  have hav := val_dig a ha
  have l0 := dig_lt b 0
  have l1 := dig_lt b 1
  have l2 := dig_lt b 2
  have l3 := dig_lt b 3
  have m0 := dig_lt a 0
  have m1 := dig_lt a 1
  have m2 := dig_lt a 2
  have m3 := dig_lt a 3
  rw [fin4]
  have e : miSt (dig b) (dig a) [0, 1, 2, 3] = miS (dig b) (miS (dig b) (miS (dig b) (miS (dig b) (dig a, 0) 0) 1) 2) 3 := rfl
  rw [e]
  clear e hok
  unfold valN at hav hv
  generalize dig a = x at *
  generalize dig b = y at *
  have hc : ∀ u v c : Nat, u < 18446744073709551616 → v < 18446744073709551616 → c ≤ 1 → ∃ d c2 : Nat, d = (u + 18446744073709551616 - v - c) % 18446744073709551616 ∧ c2 = (if u < v + c then 1 else 0) ∧ u + c2 * 18446744073709551616 = v + c + d ∧ d < 18446744073709551616 ∧ c2 ≤ 1 := by
    intro u v c h1 h2 h3
    refine ⟨_, _, rfl, rfl, ?_, Nat.mod_lt _ (by decide), ?_⟩
    · split <;> omega
    · split <;> decide
  obtain ⟨d0, c1, hd0, hc1, q0, r0, s0⟩ := hc (x 0) (y 0) 0 m0 l0 (by decide)
  obtain ⟨d1, c2, hd1, hc2, q1, r1, s1⟩ := hc (x 1) (y 1) c1 m1 l1 s0
  obtain ⟨d2, c3, hd2, hc3, q2, r2, s2⟩ := hc (x 2) (y 2) c2 m2 l2 s1
  obtain ⟨d3, c4, hd3, hc4, q3, r3, s3⟩ := hc (x 3) (y 3) c3 m3 l3 s2
  have e1 : miS y (x, 0) 0 = (upd x 0 d0, c1) := by rw [hd0, hc1]; rfl
  have e2 : miS y (upd x 0 d0, c1) 1 = (upd (upd x 0 d0) 1 d1, c2) := by rw [hd1, hc2]; rfl
  have e3 : miS y (upd (upd x 0 d0) 1 d1, c2) 2 = (upd (upd (upd x 0 d0) 1 d1) 2 d2, c3) := by rw [hd2, hc3]; rfl
  have e4 : miS y (upd (upd (upd x 0 d0) 1 d1) 2 d2, c3) 3 = (upd (upd (upd (upd x 0 d0) 1 d1) 2 d2) 3 d3, c4) := by rw [hd3, hc4]; rfl
  rw [e1, e2, e3, e4]
  have e5 : valN (upd (upd (upd (upd x 0 d0) 1 d1) 2 d2) 3 d3) = d0 + d1 * 18446744073709551616 + d2 * 340282366920938463463374607431768211456 + d3 * 6277101735386680763835789423207666416102355444464034512896 := rfl
  rw [e5]
  show num _ = _ ∧ c4 = _
  clear e1 e2 e3 e4 e5 hc hd0 hd1 hd2 hd3 hc1 hc2 hc3 hc4
  generalize x 0 = x0 at *
  generalize x 1 = x1 at *
  generalize x 2 = x2 at *
  generalize x 3 = x3 at *
  generalize y 0 = y0 at *
  generalize y 1 = y1 at *
  generalize y 2 = y2 at *
  generalize y 3 = y3 at *
  have hT : a + c4 * 115792089237316195423570985008687907853269984665640564039457584007913129639936 = b + (d0 + d1 * 18446744073709551616 + d2 * 340282366920938463463374607431768211456 + d3 * 6277101735386680763835789423207666416102355444464034512896) := by omega
  have hD : d0 + d1 * 18446744073709551616 + d2 * 340282366920938463463374607431768211456 + d3 * 6277101735386680763835789423207666416102355444464034512896 < 115792089237316195423570985008687907853269984665640564039457584007913129639936 := by omega
  generalize d0 + d1 * 18446744073709551616 + d2 * 340282366920938463463374607431768211456 + d3 * 6277101735386680763835789423207666416102355444464034512896 = D at *
  clear hav hv q0 q1 q2 q3
  refine ⟨congrArg num ?_, ?_⟩
  · omega
  · split <;> omega
def prS (a : Nat) (f : Nat → Nat) (s : (Nat → Nat) × Nat) (x : Nat) : (Nat → Nat) × Nat :=
  (upd s.1 x ((s.2 + a * f x) % 18446744073709551616), (s.2 + a * f x) / 18446744073709551616)
def prSt (a : Nat) (f : Nat → Nat) (pre : List (Fin 4)) : (Nat → Nat) × Nat := pre.foldl (fun s x => prS a f s x.1) (fun _ => 0, 0)
theorem prSt_snoc (a : Nat) (f : Nat → Nat) (pre : List (Fin 4)) (x : Fin 4) : prSt a f (pre ++ [x]) = prS a f (prSt a f pre) x.1 := by simp [prSt]
theorem mul_lt4 {a n : Nat} (ha : a < 115792089237316195423570985008687907853269984665640564039457584007913129639936) (hn : n < 18446744073709551616) : a * n ≤ 115792089237316195423570985008687907853269984665640564039457584007913129639935 * 18446744073709551615 :=
  Nat.mul_le_mul (Nat.le_of_lt_succ ha) (Nat.le_of_lt_succ hn)
theorem prS_ok (a : Nat) (f : Nat → Nat) (s : (Nat → Nat) × Nat) (x : Nat) (ha : a < 115792089237316195423570985008687907853269984665640564039457584007913129639936) (hf : f x < 18446744073709551616) (h1 : ∀ j, s.1 j < 18446744073709551616) (h2 : s.2 < 115792089237316195423570985008687907853269984665640564039457584007913129639936) :
    (∀ j, (prS a f s x).1 j < 18446744073709551616) ∧ (prS a f s x).2 < 115792089237316195423570985008687907853269984665640564039457584007913129639936 := by
  have hm := mul_lt4 ha hf
  refine ⟨fun j => ?_, ?_⟩
  · unfold prS upd
    show (if j = x then _ else _) < _
    split
    · exact Nat.mod_lt _ (by decide)
    · exact h1 j
  · show (s.2 + a * f x) / _ < _
    generalize a * f x = z at *
    omega
theorem prSt_ok (a : Nat) (f : Nat → Nat) (ha : a < 115792089237316195423570985008687907853269984665640564039457584007913129639936) (hf : ∀ j, f j < 18446744073709551616) :
    ∀ pre, (∀ j, (prSt a f pre).1 j < 18446744073709551616) ∧ (prSt a f pre).2 < 115792089237316195423570985008687907853269984665640564039457584007913129639936 := by
  have key : ∀ (pre : List (Fin 4)) (s : (Nat → Nat) × Nat), (∀ j, s.1 j < 18446744073709551616) → s.2 < 115792089237316195423570985008687907853269984665640564039457584007913129639936 →
      (∀ j, (pre.foldl (fun s x => prS a f s x.1) s).1 j < 18446744073709551616) ∧ (pre.foldl (fun s x => prS a f s x.1) s).2 < 115792089237316195423570985008687907853269984665640564039457584007913129639936 := by
    intro pre
    induction pre with
    | nil => exact fun s h1 h2 => ⟨h1, h2⟩
    | cons x pre ih =>
      intro s h1 h2
      have h := prS_ok a f s x.1 ha (hf _) h1 h2
      exact ih _ h.1 h.2
  exact fun pre => key pre (fun _ => 0, 0) (fun _ => (show 0 < 18446744073709551616 by decide)) (show 0 < 115792089237316195423570985008687907853269984665640564039457584007913129639936 by decide)
theorem prSt_all (a b : Nat) (ha : a < 115792089237316195423570985008687907853269984665640564039457584007913129639936) (hb : b < 115792089237316195423570985008687907853269984665640564039457584007913129639936) :
    (rowOf .u64 4 (prSt a (dig b) (List.finRange 4)).1).toArray = num (a * b % 115792089237316195423570985008687907853269984665640564039457584007913129639936) ∧
    (prSt a (dig b) (List.finRange 4)).2 = a * b / 115792089237316195423570985008687907853269984665640564039457584007913129639936 := by
  have hok := prSt_ok a (dig b) ha (dig_lt b) (List.finRange 4)
  rw [← num_val _ hok.1]
  have hv := val_mul (dig b) a
  rw [val_dig b hb] at hv
  have l0 := mul_lt4 ha (dig_lt b 0)
  have l1 := mul_lt4 ha (dig_lt b 1)
  have l2 := mul_lt4 ha (dig_lt b 2)
  have l3 := mul_lt4 ha (dig_lt b 3)
  rw [fin4]
  have e : prSt a (dig b) [0, 1, 2, 3] = prS a (dig b) (prS a (dig b) (prS a (dig b) (prS a (dig b) (fun _ => 0, 0) 0) 1) 2) 3 := rfl
  rw [e]
  clear e hok
  rw [Nat.mul_comm b a] at hv
  rw [hv]
  rw [Nat.mul_comm _ a, Nat.mul_comm _ a, Nat.mul_comm _ a, Nat.mul_comm _ a]
  obtain ⟨p0, hp0⟩ : ∃ p, p = a * dig b 0 := ⟨_, rfl⟩
  obtain ⟨p1, hp1⟩ : ∃ p, p = a * dig b 1 := ⟨_, rfl⟩
  obtain ⟨p2, hp2⟩ : ∃ p, p = a * dig b 2 := ⟨_, rfl⟩
  obtain ⟨p3, hp3⟩ : ∃ p, p = a * dig b 3 := ⟨_, rfl⟩
  have e1 : prS a (dig b) (fun _ => 0, 0) 0 = (upd (fun _ => 0) 0 ((0 + p0) % 18446744073709551616), (0 + p0) / 18446744073709551616) := by unfold prS; rw [hp0]
  rw [e1]
  obtain ⟨c1, hc1⟩ : ∃ c, c = (0 + p0) / 18446744073709551616 := ⟨_, rfl⟩
  rw [← hc1]
  have e2 : ∀ g : Nat → Nat, prS a (dig b) (g, c1) 1 = (upd g 1 ((c1 + p1) % 18446744073709551616), (c1 + p1) / 18446744073709551616) := by intro g; unfold prS; rw [hp1]
  rw [e2]
  obtain ⟨c2, hc2⟩ : ∃ c, c = (c1 + p1) / 18446744073709551616 := ⟨_, rfl⟩
  rw [← hc2]
  have e3 : ∀ g : Nat → Nat, prS a (dig b) (g, c2) 2 = (upd g 2 ((c2 + p2) % 18446744073709551616), (c2 + p2) / 18446744073709551616) := by intro g; unfold prS; rw [hp2]
  rw [e3]
  obtain ⟨c3, hc3⟩ : ∃ c, c = (c2 + p2) / 18446744073709551616 := ⟨_, rfl⟩
  rw [← hc3]
  have e4 : ∀ g : Nat → Nat, prS a (dig b) (g, c3) 3 = (upd g 3 ((c3 + p3) % 18446744073709551616), (c3 + p3) / 18446744073709551616) := by intro g; unfold prS; rw [hp3]
  rw [e4]
  rw [← hp0, ← hp1, ← hp2, ← hp3]
  rw [← hp0] at l0
  rw [← hp1] at l1
  rw [← hp2] at l2
  rw [← hp3] at l3
  have e5 : valN (upd (upd (upd (upd (fun _ => 0) 0 ((0 + p0) % 18446744073709551616)) 1 ((c1 + p1) % 18446744073709551616)) 2 ((c2 + p2) % 18446744073709551616)) 3 ((c3 + p3) % 18446744073709551616)) = (0 + p0) % 18446744073709551616 + ((c1 + p1) % 18446744073709551616) * 18446744073709551616 + ((c2 + p2) % 18446744073709551616) * 340282366920938463463374607431768211456 + ((c3 + p3) % 18446744073709551616) * 6277101735386680763835789423207666416102355444464034512896 := rfl
  rw [e5]
  clear e1 e2 e3 e4 e5 hp0 hp1 hp2 hp3 hb ha hv
  refine ⟨congrArg num ?_, ?_⟩
  · omega
  · show (c3 + p3) / 18446744073709551616 = _
    omega
open Go.RowKit Go.Shelf
attribute [local go_sem] Oper.semAt_some
section
variable {F : Fence} {n : Nat} {P : Program} {ops : Array Oper} {Q : Exit → Act → World → Prop} {a : Act} {w w2 : World} {rest : List Oper} {o : Oper}
theorem wpListIn_run (hgd : o.guard = none) (hab : o.about P w a.eval = none) (hsem : o.semAt F.round a.eval = execOp a.eval o) (v : Value)
    (hrun : (execOp a.eval o).run P w = .ok (.value v) w2) (h : wpListIn F n P ops Q rest (a.put o.dst v) w2) : wpListIn F n P ops Q (o :: rest) a w :=
  wpListIn_plain hgd fun K hK => ⟨fun f hf => (by rw [hab] at hf; cases hf), by rw [hsem, hrun]; exact hK _ _ h⟩
theorem wpListIn_run0 (hgd : o.guard = none) (hab : o.about P w a.eval = none) (hsem : o.semAt F.round a.eval = execOp a.eval o)
    (hrun : (execOp a.eval o).run P w = .ok .skip w2) (h : wpListIn F n P ops Q rest (a.put o.dst undef) w2) : wpListIn F n P ops Q (o :: rest) a w :=
  wpListIn_plain hgd fun K hK => ⟨fun f hf => (by rw [hab] at hf; cases hf), by rw [hsem, hrun]; exact hK _ _ h⟩
variable {md : Region.Mode} {fuel : Nat} {listed : Array Bool} {w3 : World} {i j : Nat} {rs : List Nat}
theorem opIn_run {K : Act → World → Prop} (hnc : ∀ c, o.op ≠ .call c) (hnd : ∀ c, o.op ≠ .defer c) (hg : o.guard = none) (v : Value) (hrun : (execOp a.eval o).run P w = .ok (.value v) w2) (h : K (a.put o.dst v) w2) :
    Oper.wpIn F n P o a w K Q := by
  have hab : o.about P w a.eval = none := by
    unfold Oper.about
    cases ho : o.op <;> first | rfl | exact absurd ho (hnc _)
  have hsem : o.semAt F.round a.eval = execOp a.eval o := by
    cases hr : F.round with
    | none => exact Oper.semAt_none _ _
    | some l => exact Oper.semAt_some l _ _ hnd
  exact ⟨fun f hf => (by rw [hab] at hf; cases hf), by rw [hsem, hrun]; exact h⟩
theorem AllReadyIn.op (d : Option Tmp) (opr : Op) (ho : (ops[i]?).map (fun o => (o.dst, o.op, o.guard)) = some (d, opr, none)) (hnc : ∀ c, opr ≠ .call c) (hnd : ∀ c, opr ≠ .defer c) (v : Value)
    (hrun : ∀ o : Oper, o.op = opr → (execOp a.eval o).run P w = .ok (.value v) w2) (h : wpAnyIn F n P md ops Q fuel (listed.setIfInBounds i true) (a.put d v) w2)
    (hs : AllReadyIn F n P md ops Q fuel listed a w rs) : AllReadyIn F n P md ops Q fuel listed a w (i :: rs) := by
  cases hq : ops[i]? with
  | none => simp [hq] at ho
  | some o =>
    simp [hq] at ho
    obtain ⟨rfl, rfl, hg⟩ := ho
    exact AllReadyIn.cons hq (fun K' hK => by rw [if_pos (by simp [Region.wanted, hg])]; exact opIn_run hnc hnd hg v (hrun o rfl) (hK _ _ h)) hs
theorem AllReadyIn.yield (d : Option Tmp) (f : Operand) (args : Array Operand) (tys : Array TypeId) (ho : (ops[i]?).map (fun o => (o.dst, o.op, o.guard)) = some (d, .call { callee := .value f, args := args, argTypes := tys }, none))
    (l : Nat) (hf : a.eval f = .func (.yield l) #[] #[]) (avs : Array Value) (has : args.map a.eval = avs) (R : Ending → World → Prop) (hy : YieldAt F (n - 1) P l avs w R) (hn : 1 ≤ n)
    (hK : ∀ v w', R (.returned v) w' → wpAnyIn F n P md ops Q fuel (listed.setIfInBounds i true) (a.put d v) w') (hnp : ∀ c w', ¬ R (.panicked c) w') (hno : ∀ w', ¬ R .outgrown w')
    (hs : AllReadyIn F n P md ops Q fuel listed a w rs) : AllReadyIn F n P md ops Q fuel listed a w (i :: rs) := by
  cases hq : ops[i]? with
  | none => simp [hq] at ho
  | some o =>
    simp [hq] at ho
    obtain ⟨rfl, hop, hg⟩ := ho
    refine AllReadyIn.cons hq (fun K' hK' => ?_) hs
    rw [if_pos (by simp [Region.wanted, hg])]
    obtain ⟨fn, tmps, assign, body, hrun, hR⟩ := hy
    have hsem : o.semAt F.round a.eval = execOp a.eval o := by
      cases hr : F.round with
      | none => exact Oper.semAt_none _ _
      | some l => exact Oper.semAt_some l _ _ (fun c => by rw [hop]; exact fun e => by cases e)
    have hres : (resolve a.eval { callee := .value f, args := args, argTypes := tys } o.type).run P w = .ok { target := .fn (.yield l) #[], args := avs } w := by
      simp [resolve, hf, has, Deferred.ofValue]
    refine ⟨fun f' hf' => ?_, ?_⟩
    · unfold Oper.about at hf'
      simp only [hop, hres] at hf'
      simp [Target.leads] at hf'
    · rw [hsem]
      have hx : (execOp a.eval o).run P w = .ok (.round l fn tmps assign body) w := by
        unfold execOp
        simp only [hop, Sem.run_bind, hres, Result.andThen_ok, invoke]
        exact hrun
      rw [hx, Oper.uponIn_round]
      refine ⟨fun _ => hn, hR.mono ?_⟩
      intro e w' hr
      cases e with
      | returned v => exact hK' _ _ (hK v w' hr)
      | panicked c => exact (hnp c w' hr).elim
      | outgrown => exact (hno w' hr).elim
end
structure Fr (S : Nat → Prop) (w w' : World) : Prop where
  os : w'.os = w.os
  tape : w'.tape = w.tape
  output : w'.output = w.output
  size : w.heap.size ≤ w'.heap.size
  block : ∀ k, k < w.heap.size → ¬ S k → w'.heap[k]? = w.heap[k]?
theorem Fr.refl (S : Nat → Prop) (w : World) : Fr S w w := ⟨rfl, rfl, rfl, Nat.le_refl _, fun _ _ _ => rfl⟩
theorem Fr.trans {S : Nat → Prop} {a b c : World} (h : Fr S a b) (k : Fr S b c) : Fr S a c :=
  ⟨k.os.trans h.os, k.tape.trans h.tape, k.output.trans h.output, Nat.le_trans h.size k.size, fun i hi hS => (k.block i (Nat.lt_of_lt_of_le hi h.size) hS).trans (h.block i hi hS)⟩
theorem Fr.mono {S T : Nat → Prop} {a b : World} (h : Fr S a b) (hST : ∀ k, k < a.heap.size → S k → T k) : Fr T a b := ⟨h.os, h.tape, h.output, h.size, fun k hk hT => h.block k hk (fun hS => hT (hST k hk hS))⟩
theorem Fr.drew {S : Nat → Prop} {a w : World} (h : Fr S a w) : Fr S a w.drew := ⟨h.os, h.tape, h.output, h.size, h.block⟩
theorem Fr.alloc {S : Nat → Prop} {a w : World} (h : Fr S a w) (o : Obj) : Fr S a (w.alloc o) :=
  h.trans ⟨rfl, rfl, rfl, by simp, fun k hk _ => Below.heap_alloc _ _ _ hk⟩
theorem Fr.setCell {S : Nat → Prop} {a w : World} (h : Fr S a w) {p : Addr} (hp : S p.block) (u : Value) : Fr S a (w.setCell p u) :=
  h.trans ⟨rfl, rfl, rfl, by simp [World.setCell], fun k _ hS => Below.heap_setCell _ _ _ _ (fun e => hS (e ▸ hp))⟩
theorem Fr.setRow {S : Nat → Prop} {a w : World} (h : Fr S a w) {g : Nat} (hp : S g) (cs : Array Value) : Fr S a (w.setRow g cs) :=
  h.trans ⟨rfl, rfl, rfl, by simp, fun k _ hS => setRow_other _ _ _ _ (fun e => hS (e ▸ hp))⟩
theorem Fr.below {S : Nat → Prop} {a b : World} (h : Fr S a b) {B : Nat} (hB : B ≤ a.heap.size) (hS : ∀ k, k < B → ¬ S k) : Below B a b :=
  ⟨h.os, h.tape, h.output, h.size, fun k hk => h.block k (by omega) (hS k hk)⟩
section
variable {F : Fence} {n : Nat} {P : Program} {ops : Array Oper} {Q : Exit → Act → World → Prop} {a : Act} {w w2 : World} {rest : List Oper} {o : Oper}
theorem uponIn_unround {K : Act → World → Prop} (l : Nat) (r : Result Next) (h : o.uponIn F n P a K Q r) : o.uponIn (F.inRound l) n P a K Q r := by
  cases r with
  | ok x w => cases x <;> exact h
  | halt x w => exact h
theorem opIn_unround {K : Act → World → Prop} (l : Nat) (hro : F.round = none) (hnd : ∀ c, o.op ≠ .defer c) (h : Oper.wpIn F n P o a w K Q) : Oper.wpIn (F.inRound l) n P o a w K Q := by
  refine ⟨h.1, ?_⟩
  have h2 := h.2
  rw [hro, Oper.semAt_none] at h2
  rw [Fence.inRound_round, Oper.semAt_some l _ _ hnd]
  exact uponIn_unround l _ h2
theorem anyIn_unround {md : Region.Mode} (l : Nat) (hro : F.round = none) (hnd : ∀ (i : Nat) (o : Oper), ops[i]? = some o → ∀ c, o.op ≠ Op.defer c) : ∀ (fuel : Nat) (listed : Array Bool) (a : Act) (w : World), wpAnyIn F n P md ops Q fuel listed a w → wpAnyIn (F.inRound l) n P md ops Q fuel listed a w
  | 0, _, _, _, h => h
  | fuel + 1, listed, a, w, h => by
    refine ⟨h.1, fun i hi => ?_⟩
    have h2 := h.2 i hi
    unfold wpOpIn at h2 ⊢
    cases hq : ops[i]? with
    | none => rw [hq] at h2; exact anyIn_unround l hro hnd _ _ _ _ h2
    | some o =>
      rw [hq] at h2
      simp only at h2 ⊢
      by_cases hw : Region.wanted o (yielded ops a.tmps) = true
      · rw [if_pos hw] at h2 ⊢
        exact Oper.wpIn_mono (fun a w h => anyIn_unround l hro hnd _ _ _ _ h) (opIn_unround l hro (hnd i o hq) h2)
      · rw [if_neg hw] at h2 ⊢
        exact ⟨h2.1, anyIn_unround l hro hnd _ _ _ _ h2.2⟩
end
end Go.Proofs.YtdajmekliodmcaaGreatDoor.P8
namespace Go.Proofs.YtdajmekliodmcaaGreatDoor.P8
set_option linter.unusedSimpArgs false
open Go.RowKit
set_option linter.unusedVariables false
theorem results_cell {fn : Func} {a : Tmp} {t : TypeId} (h : fn.results = #[.cell a t]) (tmps : Array Value) (P : Program) (w : World) (ad : Addr) (ha : tmps.getD a undef = .pointer (some ad)) (v : Value)
    (hl : (loadVar t ad).run P w = .ok v w) : (results fn tmps).run P w = .ok v w := by
  have ha2 : tmps[a]?.getD undef = .pointer (some ad) := by rw [← Array.getD_eq_getD_getElem?]; exact ha
  unfold results
  rw [h]
  simp [Array.mapM_eq_mapM_toList, ha2, asAddr, hl]
theorem or_join (i a b : Nat) (hb : b < 2 ^ i) : a * 2 ^ i ||| b = a * 2 ^ i + b := by
  rw [Nat.mul_comm, Nat.two_pow_add_eq_or_of_lt hb]
def mulHi (x y : Nat) : Nat := x * y / 18446744073709551616
def mulLo (x y : Nat) : Nat := x * y % 18446744073709551616
theorem mul_le32 {a b : Nat} (ha : a < 4294967296) (hb : b < 4294967296) : a * b ≤ 18446744065119617025 :=
  Nat.le_trans (Nat.mul_le_mul (Nat.le_of_lt_succ ha) (Nat.le_of_lt_succ hb)) (by decide)
theorem mul_parts (x y : Nat) : x * y = x % 4294967296 * (y % 4294967296) + (x / 4294967296 * (y % 4294967296) + x % 4294967296 * (y / 4294967296)) * 4294967296 + x / 4294967296 * (y / 4294967296) * 18446744073709551616 := by
  have hx : x = x / 4294967296 * 4294967296 + x % 4294967296 := by omega
  have hy : y = y / 4294967296 * 4294967296 + y % 4294967296 := by omega
  generalize x / 4294967296 = x1 at *
  generalize x % 4294967296 = x0 at *
  generalize y / 4294967296 = y1 at *
  generalize y % 4294967296 = y0 at *
  subst hx
  subst hy
  have h1 : x1 * 4294967296 * (y1 * 4294967296) = x1 * y1 * 18446744073709551616 := by rw [Nat.mul_mul_mul_comm]
  have h2 : x1 * 4294967296 * y0 = x1 * y0 * 4294967296 := by rw [Nat.mul_right_comm]
  have h3 : x0 * (y1 * 4294967296) = x0 * y1 * 4294967296 := by rw [Nat.mul_assoc]
  rw [Nat.add_mul, Nat.mul_add, Nat.mul_add, h1, h2, h3]
  omega
theorem and32 (x : Nat) (hx : x < 18446744073709551616) : bits .and .u64 (x : Int) 4294967295 = ((x % 4294967296 : Nat) : Int) := by
  have h := bits_and_u64_nat x 4294967295 hx (by decide)
  have h2 : x &&& 4294967295 = x % 4294967296 := Nat.and_two_pow_sub_one_eq_mod x 32
  rw [h2] at h
  exact h
theorem mul_ex (x y : Nat) (hx : x < 18446744073709551616) (hy : y < 18446744073709551616) : ∃ x0 x1 y0 y1 A A1 B t w1 w2 C v D v1 s1 hi XY lo : Nat,
    (bits .and .u64 (x : Int) 4294967295 = (x0 : Int) ∧ (x : Int) / 4294967296 = (x1 : Int) ∧ bits .and .u64 (y : Int) 4294967295 = (y0 : Int) ∧ (y : Int) / 4294967296 = (y1 : Int)) ∧
    ((x0 : Int) * (y0 : Int) = (A : Int) ∧ (A : Int) / 4294967296 = (A1 : Int) ∧ (x1 : Int) * (y0 : Int) = (B : Int) ∧ (B : Int) + (A1 : Int) = (t : Int)) ∧
    (bits .and .u64 (t : Int) 4294967295 = (w1 : Int) ∧ (t : Int) / 4294967296 = (w2 : Int) ∧ (x0 : Int) * (y1 : Int) = (C : Int) ∧ (w1 : Int) + (C : Int) = (v : Int)) ∧
    ((x1 : Int) * (y1 : Int) = (D : Int) ∧ (v : Int) / 4294967296 = (v1 : Int) ∧ (D : Int) + (w2 : Int) = (s1 : Int) ∧ (s1 : Int) + (v1 : Int) = (hi : Int)) ∧
    ((x : Int) * (y : Int) = (XY : Int) ∧ IntKind.u64.wrap (XY : Int) = (lo : Int)) ∧
    (IntKind.u64.wrap (A : Int) = (A : Int) ∧ IntKind.u64.wrap (B : Int) = (B : Int) ∧ IntKind.u64.wrap (t : Int) = (t : Int) ∧ IntKind.u64.wrap (C : Int) = (C : Int) ∧ IntKind.u64.wrap (v : Int) = (v : Int) ∧ IntKind.u64.wrap (D : Int) = (D : Int) ∧ IntKind.u64.wrap (s1 : Int) = (s1 : Int) ∧ IntKind.u64.wrap (hi : Int) = (hi : Int)) ∧
    hi = mulHi x y ∧ lo = mulLo x y := by
  have hp := mul_parts x y
  have a0 := and32 x hx
  have b0 := and32 y hy
  have x0l : x % 4294967296 < 4294967296 := Nat.mod_lt _ (by decide)
  have y0l : y % 4294967296 < 4294967296 := Nat.mod_lt _ (by decide)
  have x1l : x / 4294967296 < 4294967296 := by omega
  have y1l : y / 4294967296 < 4294967296 := by omega
  have hA := mul_le32 x0l y0l
  have hB := mul_le32 x1l y0l
  have hC := mul_le32 x0l y1l
  have hD := mul_le32 x1l y1l
  have e1 : (x : Int) / 4294967296 = ((x / 4294967296 : Nat) : Int) := by omega
  have e2 : (y : Int) / 4294967296 = ((y / 4294967296 : Nat) : Int) := by omega
  have hmul : ∀ a b : Nat, (a : Int) * (b : Int) = ((a * b : Nat) : Int) := fun a b => (Int.natCast_mul a b).symm
  have hxy := hmul x y
  unfold mulHi mulLo
  generalize x / 4294967296 = x1 at *
  generalize x % 4294967296 = x0 at *
  generalize y / 4294967296 = y1 at *
  generalize y % 4294967296 = y0 at *
  have hAe := hmul x0 y0
  have hBe := hmul x1 y0
  have hCe := hmul x0 y1
  have hDe := hmul x1 y1
  generalize x0 * y0 = A at *
  generalize x1 * y0 = B at *
  generalize x0 * y1 = C at *
  generalize x1 * y1 = D at *
  generalize x * y = XY at *
  have ht : B + A / 4294967296 < 18446744073709551616 := by omega
  have hw := and32 (B + A / 4294967296) ht
  refine ⟨x0, x1, y0, y1, A, A / 4294967296, B, B + A / 4294967296, (B + A / 4294967296) % 4294967296, (B + A / 4294967296) / 4294967296, C, (B + A / 4294967296) % 4294967296 + C, D, ((B + A / 4294967296) % 4294967296 + C) / 4294967296, D + (B + A / 4294967296) / 4294967296, D + (B + A / 4294967296) / 4294967296 + ((B + A / 4294967296) % 4294967296 + C) / 4294967296, XY, XY % 18446744073709551616,
    ⟨a0, e1, b0, e2⟩, ⟨hAe, by omega, hBe, by omega⟩, ⟨hw, by omega, hCe, by omega⟩, ⟨hDe, by omega, by omega, by omega⟩, ⟨hxy, wrapM XY⟩, ⟨wrap_id (by omega), wrap_id (by omega), wrap_id (by omega), wrap_id (by omega), wrap_id (by omega), wrap_id (by omega), wrap_id (by omega), wrap_id (by omega)⟩, by omega, rfl⟩
set_option maxRecDepth 100000 in
set_option maxHeartbeats 1000000 in
theorem mul64_any (x y : Nat) (hx : x < 18446744073709551616) (hy : y < 18446744073709551616) (w : World) :
    Calls Tryz.prog 174 #[.int .u64 x, .int .u64 y] w fun e w' => e = .returned (.tuple #[.int .u64 (mulHi x y), .int .u64 (mulLo x y)]) ∧ w = w' := by
  obtain ⟨x0, x1, y0, y1, A, A1, B, t, w1, w2, C, v, D, v1, s1, hi, XY, lo, ⟨f1, f2, f3, f4⟩, ⟨f5, f6, f7, f8⟩, ⟨f9, f10, f11, f12⟩, ⟨f13, f14, f15, f16⟩, ⟨f17, f18⟩, ⟨g1, g2, g3, g4, g5, g6, g7, g8⟩, hh, hl⟩ := mul_ex x y hx hy
  rw [← hh, ← hl]
  clear hh hl
  go_enter Tryz.func174, Tryz.ntmps174
  go_wp2
  go_ret2
  exact ⟨rfl, rfl⟩
theorem add64_run (x y c : Nat) (hc : c ≤ 1) (W : World) : (callFunc 124 #[.int .u64 x, .int .u64 y, .int .u64 c]).run Tryz.prog W =
    .ok (.value (.tuple #[.int .u64 (((x + y + c) % 18446744073709551616 : Nat) : Int), .int .u64 (((x + y + c) / 18446744073709551616 : Nat) : Int)])) W := by
  rw [run_callFunc_extern (e := add64Entry) Tryz.func124 (by kernel_rfl) (by kernel_rfl) (by kernel_rfl) (by kernel_rfl), run_add64 x y c (by omega) (by omega) (by omega) (by omega)]
  simp only [Result.andThen]
  congr 1
theorem sub64_run (x y c : Nat) (hc : c ≤ 1) (W : World) : (callFunc 125 #[.int .u64 x, .int .u64 y, .int .u64 c]).run Tryz.prog W =
    .ok (.value (.tuple #[.int .u64 (((x + 18446744073709551616 - y - c) % 18446744073709551616 : Nat) : Int), .int .u64 ((if x < y + c then 1 else 0 : Nat) : Int)])) W := by
  rw [run_callFunc_extern (e := sub64Entry) Tryz.func125 (by kernel_rfl) (by kernel_rfl) (by kernel_rfl) (by kernel_rfl), run_sub64 x y c hc]
  rfl
end Go.Proofs.YtdajmekliodmcaaGreatDoor.P8
