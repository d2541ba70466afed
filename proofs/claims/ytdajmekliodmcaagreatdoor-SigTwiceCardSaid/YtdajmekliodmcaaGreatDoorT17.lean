/- Several texts, one behind the other; each says by itself what it proves, and on what conditions. -/
import Derived.Test.YtdajmekliodmcaaGreatDoorT16
import Derived.ProofKit
import Derived.LaidMore
import Derived.LaidHandle
import Derived.LaidLaws
import Derived.OpenShut
import Derived.ChangeArms
import Derived.Lay
import Derived.Stop.Joined
/- The curve's points: the sum of any two is told (its denominators are not nought), is a point; sums in any order and grouped however; what is turned about takes away; products. No condition but what each names. -/
namespace Go.Proofs.YtdajmekliodmcaaGreatDoor.P8
set_option linter.unusedSimpArgs false
set_option linter.unusedVariables false
/-- On the curve. -/
def onK (x y : K) : Prop := y * y - x * x = 1 + dK * x * x * y * y
theorem not_sq_times {A B : K} (h : A * A = dK * (B * B)) : B = 0 := by
  by_cases hB : B = 0
  · exact hB
  · exfalso
    have h1 := k_mul_inv hB
    apply d_nonsq (A * kinv B)
    have h2 : A * kinv B * (A * kinv B) = A * A * (kinv B * kinv B) := by grind
    rw [h2, h]
    have h3 : dK * (B * B) * (kinv B * kinv B) = dK * ((B * kinv B) * (B * kinv B)) := by grind
    rw [h3, h1]
    grind
theorem k_two_ne : (2 : K) ≠ 0 := by decide
theorem complete_sq (x1 y1 x2 y2 e : K) (h1 : onK x1 y1) (h2 : onK x2 y2) (he : e = dK * x1 * x2 * y1 * y2) : e * e ≠ 1 := by
  intro hee
  have hi := ki_sq
  unfold onK at h1 h2
  have hx1 : x1 ≠ 0 := by rintro rfl; exact k_one_ne (by rw [← hee, he]; grind)
  have hy1 : y1 ≠ 0 := by rintro rfl; exact k_one_ne (by rw [← hee, he]; grind)
  have hy2 : y2 ≠ 0 := by rintro rfl; exact k_one_ne (by rw [← hee, he]; grind)
  have hxy := k_mul_ne hx1 hy1
  have hb : dK * x1 * x1 * y1 * y1 * (y2 * y2 - x2 * x2) = y1 * y1 - x1 * x1 := by grind
  have ha1 : (ki * x1 + e * y1) * (ki * x1 + e * y1) = dK * ((x1 * y1 * (ki * x2 + y2)) * (x1 * y1 * (ki * x2 + y2))) := by grind
  have ha2 : (ki * x1 - e * y1) * (ki * x1 - e * y1) = dK * ((x1 * y1 * (ki * x2 - y2)) * (x1 * y1 * (ki * x2 - y2))) := by grind
  have hz1 := (k_mul_zero (not_sq_times ha1)).resolve_left hxy
  have hz2 := (k_mul_zero (not_sq_times ha2)).resolve_left hxy
  have h2y : (2 : K) * y2 = 0 := by grind
  exact (k_mul_zero h2y).elim k_two_ne hy2
theorem complete_plus {x1 y1 x2 y2 : K} (h1 : onK x1 y1) (h2 : onK x2 y2) : 1 + dK * x1 * x2 * y1 * y2 ≠ 0 := by
  intro h
  exact complete_sq x1 y1 x2 y2 _ h1 h2 rfl (by grind)
theorem complete_minus {x1 y1 x2 y2 : K} (h1 : onK x1 y1) (h2 : onK x2 y2) : 1 - dK * x1 * x2 * y1 * y2 ≠ 0 := by
  intro h
  exact complete_sq x1 y1 x2 y2 _ h1 h2 rfl (by grind)
/-- The sum's two numbers. -/
def addX (x1 y1 x2 y2 : K) : K := (x1 * y2 + y1 * x2) * kinv (1 + dK * x1 * x2 * y1 * y2)
def addY (x1 y1 x2 y2 : K) : K := (y1 * y2 + x1 * x2) * kinv (1 - dK * x1 * x2 * y1 * y2)
theorem addX_mul {x1 y1 x2 y2 : K} (h1 : onK x1 y1) (h2 : onK x2 y2) : addX x1 y1 x2 y2 * (1 + dK * x1 * x2 * y1 * y2) = x1 * y2 + y1 * x2 := (k_div (complete_plus h1 h2)).1 rfl
theorem addY_mul {x1 y1 x2 y2 : K} (h1 : onK x1 y1) (h2 : onK x2 y2) : addY x1 y1 x2 y2 * (1 - dK * x1 * x2 * y1 * y2) = y1 * y2 + x1 * x2 := (k_div (complete_minus h1 h2)).1 rfl
theorem addX_comm (x1 y1 x2 y2 : K) : addX x1 y1 x2 y2 = addX x2 y2 x1 y1 := by
  unfold addX
  rw [show x1 * y2 + y1 * x2 = x2 * y1 + y2 * x1 by grind, show dK * x1 * x2 * y1 * y2 = dK * x2 * x1 * y2 * y1 by grind]
theorem addY_comm (x1 y1 x2 y2 : K) : addY x1 y1 x2 y2 = addY x2 y2 x1 y1 := by
  unfold addY
  rw [show y1 * y2 + x1 * x2 = y2 * y1 + x2 * x1 by grind, show dK * x1 * x2 * y1 * y2 = dK * x2 * x1 * y2 * y1 by grind]
theorem on_zero {x y : K} (h : onK x y) : y * y - x * x - 1 - dK * x * x * y * y = 0 := by
  unfold onK at h
  grind
theorem on_of_zero {x y : K} (h : y * y - x * x - (1 + dK * x * x * y * y) = 0) : onK x y := by
  unfold onK
  grind
theorem close_alg (d A B e : K) : (B * (1 - e)) * (B * (1 - e)) * ((1 + e) * (1 + e)) - (A * (1 + e)) * (A * (1 + e)) * ((1 - e) * (1 - e)) - (1 - e * e) * (1 - e * e) - d * ((A * (1 + e)) * (A * (1 + e))) * ((B * (1 - e)) * (B * (1 - e))) =
    (B * B - A * A - (1 + d * A * A * B * B)) * ((1 + e) * (1 - e) * ((1 + e) * (1 - e))) := by grind
theorem times_zero2 (a b : K) : a * 0 + b * 0 = 0 := by rw [Fin.mul_zero, Fin.mul_zero, Fin.add_zero]
theorem times_zero3 (a b c : K) : a * 0 + b * 0 + c * 0 = 0 := by rw [Fin.mul_zero, Fin.mul_zero, Fin.mul_zero, Fin.add_zero, Fin.add_zero]
theorem add_on {x1 y1 x2 y2 : K} (h1 : onK x1 y1) (h2 : onK x2 y2) : onK (addX x1 y1 x2 y2) (addY x1 y1 x2 y2) := by
  have hne := k_mul_ne (k_mul_ne (complete_plus h1 h2) (complete_minus h1 h2)) (k_mul_ne (complete_plus h1 h2) (complete_minus h1 h2))
  have hid := close_id dK x1 y1 x2 y2
  rw [on_zero h1, on_zero h2, times_zero2, ← addX_mul h1 h2, ← addY_mul h1 h2, close_alg] at hid
  exact on_of_zero ((k_mul_zero hid).resolve_right hne)
theorem assocX_alg (d A B C D x1 y1 x3 y3 e f : K) : ((A * (1 + e)) * (1 - e) * y3 + (B * (1 - e)) * (1 + e) * x3) * ((1 - f * f) + d * x1 * y1 * (C * (1 + f)) * (D * (1 - f))) - (x1 * (D * (1 - f)) * (1 + f) + y1 * (C * (1 + f)) * (1 - f)) * ((1 - e * e) + d * (A * (1 + e)) * (B * (1 - e)) * x3 * y3) =
    ((A * y3 + B * x3) * (1 + d * x1 * C * y1 * D) - (x1 * D + y1 * C) * (1 + d * A * x3 * B * y3)) * ((1 + e) * (1 - e) * ((1 + f) * (1 - f))) := by grind
theorem assocY_alg (d A B C D x1 y1 x3 y3 e f : K) : ((B * (1 - e)) * (1 + e) * y3 + (A * (1 + e)) * (1 - e) * x3) * ((1 - f * f) - d * x1 * y1 * (C * (1 + f)) * (D * (1 - f))) - (y1 * (D * (1 - f)) * (1 + f) + x1 * (C * (1 + f)) * (1 - f)) * ((1 - e * e) - d * (A * (1 + e)) * (B * (1 - e)) * x3 * y3) =
    ((B * y3 + A * x3) * (1 - d * x1 * C * y1 * D) - (y1 * D + x1 * C) * (1 - d * A * x3 * B * y3)) * ((1 + e) * (1 - e) * ((1 + f) * (1 - f))) := by grind
theorem cross {L R u v m n : K} (hL : L * u = m) (hR : R * v = n) (h : m * v - n * u = 0) (hu : u ≠ 0) (hv : v ≠ 0) : L = R := by
  apply k_cancel (k_mul_ne hu hv)
  have h1 : L * (u * v) = (L * u) * v := by grind
  have h2 : R * (u * v) = (R * v) * u := by grind
  rw [h1, h2, hL, hR]
  grind
theorem assoc_x {x1 y1 x2 y2 x3 y3 : K} (h1 : onK x1 y1) (h2 : onK x2 y2) (h3 : onK x3 y3) :
    addX (addX x1 y1 x2 y2) (addY x1 y1 x2 y2) x3 y3 = addX x1 y1 (addX x2 y2 x3 y3) (addY x2 y2 x3 y3) := by
  have hne := k_mul_ne (k_mul_ne (complete_plus h1 h2) (complete_minus h1 h2)) (k_mul_ne (complete_plus h2 h3) (complete_minus h2 h3))
  have o12 := add_on h1 h2
  have o23 := add_on h2 h3
  have hid := assocX_id dK x1 y1 x2 y2 x3 y3
  rw [on_zero h1, on_zero h2, on_zero h3, times_zero3, ← addX_mul h1 h2, ← addY_mul h1 h2, ← addX_mul h2 h3, ← addY_mul h2 h3, assocX_alg] at hid
  exact cross (addX_mul o12 h3) (addX_mul h1 o23) ((k_mul_zero hid).resolve_right hne) (complete_plus o12 h3) (complete_plus h1 o23)
theorem assoc_y {x1 y1 x2 y2 x3 y3 : K} (h1 : onK x1 y1) (h2 : onK x2 y2) (h3 : onK x3 y3) :
    addY (addX x1 y1 x2 y2) (addY x1 y1 x2 y2) x3 y3 = addY x1 y1 (addX x2 y2 x3 y3) (addY x2 y2 x3 y3) := by
  have hne := k_mul_ne (k_mul_ne (complete_plus h1 h2) (complete_minus h1 h2)) (k_mul_ne (complete_plus h2 h3) (complete_minus h2 h3))
  have o12 := add_on h1 h2
  have o23 := add_on h2 h3
  have hid := assocY_id dK x1 y1 x2 y2 x3 y3
  rw [on_zero h1, on_zero h2, on_zero h3, times_zero3, ← addX_mul h1 h2, ← addY_mul h1 h2, ← addX_mul h2 h3, ← addY_mul h2 h3, assocY_alg] at hid
  exact cross (addY_mul o12 h3) (addY_mul h1 o23) ((k_mul_zero hid).resolve_right hne) (complete_minus o12 h3) (complete_minus h1 o23)
theorem on_none : onK 0 1 := by unfold onK; grind
theorem add_none_x (x y : K) : addX x y 0 1 = x := by
  unfold addX
  have h1 : dK * x * 0 * y * 1 = 0 := by rw [Fin.mul_zero, Fin.zero_mul, Fin.zero_mul]
  rw [h1, Fin.add_zero, Fin.mul_zero, Fin.mul_one, Fin.add_zero]
  have h := k_mul_inv k_one_ne
  grind
theorem add_none_y (x y : K) : addY x y 0 1 = y := by
  unfold addY
  have h1 : dK * x * 0 * y * 1 = 0 := by rw [Fin.mul_zero, Fin.zero_mul, Fin.zero_mul]
  rw [h1, show (1 : K) - 0 = 1 by decide, Fin.mul_zero, Fin.mul_one, Fin.add_zero]
  have h := k_mul_inv k_one_ne
  grind
/-- The product: a point n times. -/
def mulK : Nat → K → K → K × K
  | 0, _, _ => (0, 1)
  | n + 1, x, y => (addX (mulK n x y).1 (mulK n x y).2 x y, addY (mulK n x y).1 (mulK n x y).2 x y)
theorem mul_on {x y : K} (h : onK x y) : ∀ n, onK (mulK n x y).1 (mulK n x y).2
  | 0 => on_none
  | n + 1 => add_on (mul_on h n) h
theorem mul_add {x y : K} (h : onK x y) (m : Nat) : ∀ n, mulK (m + n) x y = (addX (mulK m x y).1 (mulK m x y).2 (mulK n x y).1 (mulK n x y).2, addY (mulK m x y).1 (mulK m x y).2 (mulK n x y).1 (mulK n x y).2)
  | 0 => by
    show mulK m x y = (addX (mulK m x y).1 (mulK m x y).2 0 1, addY (mulK m x y).1 (mulK m x y).2 0 1)
    rw [add_none_x, add_none_y]
  | n + 1 => by
    show (addX (mulK (m + n) x y).1 (mulK (m + n) x y).2 x y, addY (mulK (m + n) x y).1 (mulK (m + n) x y).2 x y) = (addX _ _ (addX (mulK n x y).1 (mulK n x y).2 x y) (addY (mulK n x y).1 (mulK n x y).2 x y), addY _ _ (addX (mulK n x y).1 (mulK n x y).2 x y) (addY (mulK n x y).1 (mulK n x y).2 x y))
    rw [mul_add h m n]
    show (addX (addX _ _ _ _) (addY _ _ _ _) x y, addY (addX _ _ _ _) (addY _ _ _ _) x y) = _
    rw [assoc_x (mul_on h m) (mul_on h n) h, assoc_y (mul_on h m) (mul_on h n) h]
theorem mul_one (x y : K) : mulK 1 x y = (x, y) := by
  show (addX 0 1 x y, addY 0 1 x y) = (x, y)
  rw [addX_comm, addY_comm, add_none_x, add_none_y]
end Go.Proofs.YtdajmekliodmcaaGreatDoor.P8
/- Points with a denominator, as the document adds them; points as plain numbers; products by rows of bits. No condition but what each names. -/
namespace Go.Proofs.YtdajmekliodmcaaGreatDoor.P8
set_option linter.unusedSimpArgs false
set_option linter.unusedVariables false
/-- Three numbers stand for a point: its two numbers times a third one that is not nought. -/
def Rep (X Y Z x y : K) : Prop := Z ≠ 0 ∧ X = x * Z ∧ Y = y * Z
theorem rep_flat {X Y Z x y : K} (h : Rep X Y Z x y) : X * kinv Z = x ∧ Y * kinv Z = y := by
  obtain ⟨h0, rfl, rfl⟩ := h
  have h1 := k_mul_inv h0
  have h2 : x * Z * kinv Z = x * (Z * kinv Z) := by grind
  have h3 : y * Z * kinv Z = y * (Z * kinv Z) := by grind
  rw [h2, h3, h1, Fin.mul_one, Fin.mul_one]
  exact ⟨rfl, rfl⟩
def RepN (p : Nat × Nat × Nat) (x y : K) : Prop := Rep (toK p.1) (toK p.2.1) (toK p.2.2) x y
theorem toK_subM (a c d : Nat) : toK (subF a (mulF c d)) = toK a - toK c * toK d := by rw [toK_sub _ _ (pp_lt (mulF_lt _ _)), toK_mul]
/-- A point as plain numbers. -/
def flatN (p : Nat × Nat × Nat) : Nat × Nat := (mulF p.1 (invF p.2.2), mulF p.2.1 (invF p.2.2))
theorem flatN_of {p : Nat × Nat × Nat} {x y : K} (h : RepN p x y) : flatN p = (x.val, y.val) := by
  have h1 := rep_flat h
  unfold flatN
  have e1 : toK (mulF p.1 (invF p.2.2)) = x := by rw [toK_mul, toK_inv]; exact h1.1
  have e2 : toK (mulF p.2.1 (invF p.2.2)) = y := by rw [toK_mul, toK_inv]; exact h1.2
  have f1 := congrArg Fin.val e1
  have f2 := congrArg Fin.val e2
  rw [toK_val, Nat.mod_eq_of_lt (mulF_lt _ _)] at f1 f2
  rw [f1, f2]
/-- Whether two numbers are a point. -/
def onN (p : Nat × Nat) : Prop := p.1 < pp ∧ p.2 < pp ∧ onK (toK p.1) (toK p.2)
def addN (p q : Nat × Nat) : Nat × Nat := ((addX (toK p.1) (toK p.2) (toK q.1) (toK q.2)).val, (addY (toK p.1) (toK p.2) (toK q.1) (toK q.2)).val)
def mulN (n : Nat) (p : Nat × Nat) : Nat × Nat := ((mulK n (toK p.1) (toK p.2)).1.val, (mulK n (toK p.1) (toK p.2)).2.val)
theorem addN_x (p q : Nat × Nat) : toK (addN p q).1 = addX (toK p.1) (toK p.2) (toK q.1) (toK q.2) := toK_of _
theorem addN_y (p q : Nat × Nat) : toK (addN p q).2 = addY (toK p.1) (toK p.2) (toK q.1) (toK q.2) := toK_of _
theorem mulN_x (n : Nat) (p : Nat × Nat) : toK (mulN n p).1 = (mulK n (toK p.1) (toK p.2)).1 := toK_of _
theorem mulN_y (n : Nat) (p : Nat × Nat) : toK (mulN n p).2 = (mulK n (toK p.1) (toK p.2)).2 := toK_of _
theorem addN_lt (p q : Nat × Nat) : (addN p q).1 < pp ∧ (addN p q).2 < pp := ⟨(addX (toK p.1) (toK p.2) (toK q.1) (toK q.2)).isLt, (addY (toK p.1) (toK p.2) (toK q.1) (toK q.2)).isLt⟩
theorem mulN_lt (n : Nat) (p : Nat × Nat) : (mulN n p).1 < pp ∧ (mulN n p).2 < pp := ⟨(mulK n (toK p.1) (toK p.2)).1.isLt, (mulK n (toK p.1) (toK p.2)).2.isLt⟩
/-- Two pairs of numbers are one, if they are in the ring. -/
theorem pair_ext {p q : Nat × Nat} (hp : p.1 < pp ∧ p.2 < pp) (hq : q.1 < pp ∧ q.2 < pp) (h1 : toK p.1 = toK q.1) (h2 : toK p.2 = toK q.2) : p = q :=
  Prod.ext (toK_inj hp.1 hq.1 h1) (toK_inj hp.2 hq.2 h2)
theorem onN_lt {p : Nat × Nat} (hp : onN p) : p.1 < pp ∧ p.2 < pp := ⟨hp.1, hp.2.1⟩
theorem onN_of {p : Nat × Nat} (hp : p.1 < pp ∧ p.2 < pp) (h : onK (toK p.1) (toK p.2)) : onN p := ⟨hp.1, hp.2, h⟩
theorem mulN_on {p : Nat × Nat} (hp : onN p) (n : Nat) : onN (mulN n p) := by
  refine onN_of (mulN_lt n p) ?_
  rw [mulN_x, mulN_y]
  exact mul_on hp.2.2 n
theorem val_toK {a : Nat} (h : a < pp) : (toK a).val = a := by rw [toK_val, Nat.mod_eq_of_lt h]
theorem noneN_on : onN (0, 1) := by
  refine onN_of ⟨pp_pos, by decide⟩ ?_
  show onK (toK 0) (toK 1)
  rw [toK_zero, toK_one]
  exact on_none
theorem mulN_zero (p : Nat × Nat) : mulN 0 p = (0, 1) := by
  refine pair_ext (mulN_lt _ _) (onN_lt noneN_on) ?_ ?_
  · rw [mulN_x]
    show (0 : K) = toK 0
    exact toK_zero.symm
  · rw [mulN_y]
    show (1 : K) = toK 1
    exact toK_one.symm
theorem mulN_add {p : Nat × Nat} (hp : onN p) (m n : Nat) : mulN (m + n) p = addN (mulN m p) (mulN n p) := by
  refine pair_ext (mulN_lt _ _) (addN_lt _ _) ?_ ?_
  · rw [mulN_x, addN_x, mulN_x, mulN_y, mulN_x, mulN_y, mul_add hp.2.2]
  · rw [mulN_y, addN_y, mulN_x, mulN_y, mulN_x, mulN_y, mul_add hp.2.2]
theorem mulN_one {p : Nat × Nat} (hp : onN p) : mulN 1 p = p := by
  refine pair_ext (mulN_lt _ _) (onN_lt hp) ?_ ?_
  · rw [mulN_x, mul_one]
  · rw [mulN_y, mul_one]
theorem mulN_succ {p : Nat × Nat} (hp : onN p) (n : Nat) : mulN (n + 1) p = addN (mulN n p) p := by rw [mulN_add hp, mulN_one hp]
theorem mulN_double {p : Nat × Nat} (hp : onN p) (n : Nat) : mulN (2 * n) p = addN (mulN n p) (mulN n p) := by rw [Nat.two_mul, mulN_add hp]
theorem flatN_rep {t : Nat × Nat × Nat} {p : Nat × Nat} (hp : p.1 < pp ∧ p.2 < pp) (h : RepN t (toK p.1) (toK p.2)) : flatN t = p := by
  rw [flatN_of h, val_toK hp.1, val_toK hp.2]
end Go.Proofs.YtdajmekliodmcaaGreatDoor.P8
/- The first point of the curve, points of two and four turns, products by rows of bits, the order's product. No condition but what each names. -/
namespace Go.Proofs.YtdajmekliodmcaaGreatDoor.P8
set_option linter.unusedSimpArgs false
set_option linter.unusedVariables false
/-- The first point. -/
def baseN : Nat × Nat := (15112221349535400772501151409588531511454012693041857206046113283949847762202, 46316835694926478169428394003475163141307993866256225615783033603165251855960)
/-- The number that bits say, the highest first. -/
def hvB (l : List Bool) : Nat := l.foldl (fun n b => 2 * n + b.toNat) 0
theorem hvB_snoc (l : List Bool) (b : Bool) : hvB (l ++ [b]) = 2 * hvB l + b.toNat := by simp [hvB]
end Go.Proofs.YtdajmekliodmcaaGreatDoor.P8
/- What the listed variables' conditions give: the curve's number, its first point, the field's number, stand in memory as the program's text lays them. -/
namespace Go.Proofs.YtdajmekliodmcaaGreatDoor.P8
set_option linter.unusedSimpArgs false
open Go.ChangeShapes Go.WideShapes Go.RowKit
set_option linter.unusedVariables false
/-- The field's number, as its text lays it. -/
def GlobT (w : World) : Prop := ∃ t, w.heap[3]? = some (.cells (num tn) t (0, 0))
/-- The curve's number and its first point, as their texts lay them. -/
def Glob (w : World) : Prop := (∃ t, w.heap[2]? = some (.cells (num dN) t (0, 0))) ∧ ∃ t, w.heap[0]? = some (.cells (num baseN.1 ++ num baseN.2) t (0, 0))
theorem GlobT.below {w w' : World} (h : GlobT w) (hb : Below w.heap.size w w') : GlobT w' := by
  obtain ⟨t, h⟩ := h
  exact ⟨t, by rw [hb.block 3 (Array.getElem?_eq_some_iff.1 h).1]; exact h⟩
theorem GlobT.kn {w0 w : World} {l : List (Nat × Array Value)} (h : GlobT w0) (hk : Kn w0 l w) : GlobT w := h.below hk.1
theorem GlobT.load {w : World} (h : GlobT w) : (loadVar 36 ⟨3, 0, none⟩).run Tryz.prog w = .ok (.agg (num tn)) w := by
  obtain ⟨t, h⟩ := h
  exact run_loadVar_seg w 36 3 0 (rowOf .u64 4 (dig tn)) _ (Row.seg (t := t) h) Tryz.underlying36 rfl (size24 (dig tn))
theorem Glob.below {w w' : World} (h : Glob w) (hb : Below w.heap.size w w') : Glob w' := by
  obtain ⟨⟨t, h⟩, t2, h2⟩ := h
  exact ⟨⟨t, by rw [hb.block 2 (Array.getElem?_eq_some_iff.1 h).1]; exact h⟩, t2, by rw [hb.block 0 (Array.getElem?_eq_some_iff.1 h2).1]; exact h2⟩
theorem Glob.kn {w0 w : World} {l : List (Nat × Array Value)} (h : Glob w0) (hk : Kn w0 l w) : Glob w := h.below hk.1
theorem Glob.load {w : World} (h : Glob w) : (loadVar 36 ⟨2, 0, none⟩).run Tryz.prog w = .ok (.agg (num dN)) w := by
  obtain ⟨⟨t, h⟩, _⟩ := h
  exact run_loadVar_seg w 36 2 0 (rowOf .u64 4 (dig dN)) _ (Row.seg (t := t) h) Tryz.underlying36 rfl (size24 (dig dN))
end Go.Proofs.YtdajmekliodmcaaGreatDoor.P8
/- Points, ratios and their like in memory: numbers side by side; what a field is, what a cell is; how they are built, loaded, stored. No condition but what each names. -/
namespace Go.Proofs.YtdajmekliodmcaaGreatDoor.P8
open Go.RowKit Go.Shelf
set_option linter.unusedVariables false
set_option linter.unusedSimpArgs false
/-- An array stands in another one, from a place on. -/
def Part (P : Array Value) (off : Nat) (A : Array Value) : Prop := ∀ j v, A[j]? = some v → P[off + j]? = some v
theorem part_all (A : Array Value) : Part A 0 A := fun j v h => by rw [Nat.zero_add]; exact h
theorem part_left {P A : Array Value} (off : Nat) (h : Part P off A) (B : Array Value) : Part (P ++ B) off A := fun j v hv => by
  have h1 := h j v hv
  have hlt := (Array.getElem?_eq_some_iff.1 h1).1
  rw [Array.getElem?_append_left hlt]
  exact h1
theorem part_right (P A : Array Value) (off : Nat) (h : P.size = off) : Part (P ++ A) off A := fun j v hv => by
  subst h
  rw [Array.getElem?_append_right (Nat.le_add_right _ _), Nat.add_sub_cancel_left]
  exact hv
theorem isRw4 {A : Array Value} (h : IsNum A) : IsRw 4 A := h
theorem rw_app {m n : Nat} {A B : Array Value} (hA : IsRw m A) (hB : IsRw n B) : IsRw (m + n) (A ++ B) := by
  obtain ⟨f, rfl⟩ := hA
  obtain ⟨g, rfl⟩ := hB
  refine ⟨fun j => if j < m then f j else g (j - m), ?_⟩
  rw [List.append_toArray]
  congr 1
  apply List.ext_getElem?
  intro j
  rw [List.getElem?_append, rowOf_length]
  by_cases h : j < m
  · rw [if_pos h, rowOf_get _ _ _ _ h, rowOf_get _ _ _ _ (by omega), if_pos h]
  · rw [if_neg h]
    by_cases h2 : j < m + n
    · rw [rowOf_get _ _ _ _ h2, rowOf_get _ _ _ _ (by omega), if_neg h]
    · rw [List.getElem?_eq_none (by rw [rowOf_length]; omega), List.getElem?_eq_none (by rw [rowOf_length]; omega)]
theorem IsRw.sz {n : Nat} {A : Array Value} (h : IsRw n A) : A.size = n := by obtain ⟨f, rfl⟩ := h; exact rowOf_size _ _ _
/-- A number in a row of several. -/
theorem load_part {W : World} {g : Nat} {P A : Array Value} {t : TypeId} (hg : W.heap[g]? = some (.cells P t (0, 0))) (hA : IsNum A) (off : Nat) (hp : Part P off A) : (loadVar 36 ⟨g, off, none⟩).run Tryz.prog W = .ok (.agg A) W := by
  obtain ⟨f, rfl⟩ := hA
  exact run_loadVar_seg W 36 g off (rowOf .u64 4 f) _ (fun j v hv => (cell_of_row W g (off + j) _ t (0, 0) hg).trans (hp j v (by rw [List.getElem?_toArray]; exact hv))) Tryz.underlying36 rfl (size24 f)
/-- A cell of a row. -/
theorem cell_part {W : World} {g : Nat} {P : Array Value} {t : TypeId} (hg : W.heap[g]? = some (.cells P t (0, 0))) (off : Nat) (v : Value) (h : P[off]? = some v) : W.cell? ⟨g, off, none⟩ = some v := (cell_of_row W g off P t (0, 0) hg).trans h
theorem exec_field {ρ : Operand → Value} {o : Oper} (s : TypeId) (x : Operand) (k : Nat) (ho : o.op = .fieldAddr s x k) (v u : Value) (hx : ρ x = v) (w : World) (hr : (Instr.fieldAt s v k).run Tryz.prog w = .ok u w) : (execOp ρ o).run Tryz.prog w = .ok (.value u) w := by
  subst hx
  unfold execOp
  simp [ho, hr]
theorem exec_buildN {ρ : Operand → Value} {o : Oper} (w : World) (t : TypeId) (l : Array (Nat × Operand)) (ho : o.op = .build t l) (m : Array (Nat × Value)) (hm : l.map (fun y => (y.1, ρ y.2)) = m) (v : Value) (hrun : (Instr.build t m).run Tryz.prog w = .ok v w) : (execOp ρ o).run Tryz.prog w = .ok (.value v) w := by
  subst hm
  unfold execOp
  rw [ho]
  simp only [Sem.run_bind, Sem.run_map]
  first | (rw [hrun]; rfl) | simp [hrun]
theorem sizeT26 (f : Nat → Nat) : (Tryz.prog.info? 60).map (·.size) = some (rowOf .u64 8 f).length := by rw [rowOf_length]; kernel_rfl
theorem zeroT26 (w : World) : (zeroValue 60).run Tryz.prog w = .ok (.agg (rowOf .u64 8 (fun _ => 0)).toArray) w := by kernel_rfl
theorem loadT26 {W : World} {g : Nat} {A : Array Value} (hA : IsRw 8 A) {t : TypeId} (hg : W.heap[g]? = some (.cells A t (0, 0))) : (loadVar 60 ⟨g, 0, none⟩).run Tryz.prog W = .ok (.agg A) W := by
  obtain ⟨f, rfl⟩ := hA
  exact run_loadVar_seg W 60 g 0 (rowOf .u64 8 f) _ (Row.seg (t := t) hg) Tryz.underlying60 rfl (sizeT26 f)
theorem exec_storeT26 {ρ : Operand → Value} {o : Oper} (w : World) (x y : Operand) (ho : o.op = .store 60 x y) (g : Nat) (hx : ρ x = .pointer (some ⟨g, 0, none⟩)) (A : Array Value) (hA : IsRw 8 A) (hy : ρ y = .agg A) (cur : Array Value) (t : TypeId)
    (hg : w.heap[g]? = some (.cells cur t (0, 0))) (h8 : cur.size = 8) : (execOp ρ o).run Tryz.prog w = .ok .skip (w.setRow g A) := by
  obtain ⟨f, rfl⟩ := hA
  have h := exec_store_seg (P := Tryz.prog) (ρ := ρ) (o := o) w 60 x y ho g 0 hx (rowOf .u64 8 f) hy cur t hg (by rw [rowOf_length]; omega) (rowOf_one _ _ _) (sizeT26 f)
  rwa [splice_all _ _ (by rw [rowOf_length]; exact h8)] at h
theorem fa26_0 (g : Nat) (w : World) : (Instr.fieldAt 60 (.pointer (some ⟨g, 0, none⟩)) 0).run Tryz.prog w = .ok (.pointer (some ⟨g, 0, none⟩)) w := by kernel_rfl
theorem fa26_1 (g : Nat) (w : World) : (Instr.fieldAt 60 (.pointer (some ⟨g, 0, none⟩)) 1).run Tryz.prog w = .ok (.pointer (some ⟨g, 4, none⟩)) w := by kernel_rfl
theorem sizeT66 (f : Nat → Nat) : (Tryz.prog.info? 103).map (·.size) = some (rowOf .u64 16 f).length := by rw [rowOf_length]; kernel_rfl
theorem zeroT66 (w : World) : (zeroValue 103).run Tryz.prog w = .ok (.agg (rowOf .u64 16 (fun _ => 0)).toArray) w := by kernel_rfl
theorem loadT66 {W : World} {g : Nat} {A : Array Value} (hA : IsRw 16 A) {t : TypeId} (hg : W.heap[g]? = some (.cells A t (0, 0))) : (loadVar 103 ⟨g, 0, none⟩).run Tryz.prog W = .ok (.agg A) W := by
  obtain ⟨f, rfl⟩ := hA
  exact run_loadVar_seg W 103 g 0 (rowOf .u64 16 f) _ (Row.seg (t := t) hg) Tryz.underlying103 rfl (sizeT66 f)
theorem exec_storeT66 {ρ : Operand → Value} {o : Oper} (w : World) (x y : Operand) (ho : o.op = .store 103 x y) (g : Nat) (hx : ρ x = .pointer (some ⟨g, 0, none⟩)) (A : Array Value) (hA : IsRw 16 A) (hy : ρ y = .agg A) (cur : Array Value) (t : TypeId)
    (hg : w.heap[g]? = some (.cells cur t (0, 0))) (h8 : cur.size = 16) : (execOp ρ o).run Tryz.prog w = .ok .skip (w.setRow g A) := by
  obtain ⟨f, rfl⟩ := hA
  have h := exec_store_seg (P := Tryz.prog) (ρ := ρ) (o := o) w 103 x y ho g 0 hx (rowOf .u64 16 f) hy cur t hg (by rw [rowOf_length]; omega) (rowOf_one _ _ _) (sizeT66 f)
  rwa [splice_all _ _ (by rw [rowOf_length]; exact h8)] at h
theorem fa66_0 (g : Nat) (w : World) : (Instr.fieldAt 103 (.pointer (some ⟨g, 0, none⟩)) 0).run Tryz.prog w = .ok (.pointer (some ⟨g, 0, none⟩)) w := by kernel_rfl
theorem fa66_1 (g : Nat) (w : World) : (Instr.fieldAt 103 (.pointer (some ⟨g, 0, none⟩)) 1).run Tryz.prog w = .ok (.pointer (some ⟨g, 4, none⟩)) w := by kernel_rfl
theorem fa66_2 (g : Nat) (w : World) : (Instr.fieldAt 103 (.pointer (some ⟨g, 0, none⟩)) 2).run Tryz.prog w = .ok (.pointer (some ⟨g, 8, none⟩)) w := by kernel_rfl
theorem fa66_3 (g : Nat) (w : World) : (Instr.fieldAt 103 (.pointer (some ⟨g, 0, none⟩)) 3).run Tryz.prog w = .ok (.pointer (some ⟨g, 12, none⟩)) w := by kernel_rfl
theorem bp01_lit (a0 a1 a2 a3 b0 b1 b2 b3 : Value) (w : World) : (Instr.build 60 #[(0, .agg #[a0, a1, a2, a3]), (1, .agg #[b0, b1, b2, b3])]).run Tryz.prog w = .ok (.agg #[a0, a1, a2, a3, b0, b1, b2, b3]) w := by kernel_rfl
theorem bp01 {A B : Array Value} (hA : IsNum A) (hB : IsNum B) (w : World) : (Instr.build 60 #[(0, .agg A), (1, .agg B)]).run Tryz.prog w = .ok (.agg (A ++ B)) w := by
  obtain ⟨fa, rfl⟩ := hA
  obtain ⟨fb, rfl⟩ := hB
  exact bp01_lit _ _ _ _ _ _ _ _ w
theorem bp1_lit (b0 b1 b2 b3 : Value) (w : World) : (Instr.build 60 #[(1, .agg #[b0, b1, b2, b3])]).run Tryz.prog w = .ok (.agg #[.int .u64 0, .int .u64 0, .int .u64 0, .int .u64 0, b0, b1, b2, b3]) w := by kernel_rfl
theorem bp1 {B : Array Value} (hB : IsNum B) (w : World) : (Instr.build 60 #[(1, .agg B)]).run Tryz.prog w = .ok (.agg (num 0 ++ B)) w := by
  obtain ⟨fb, rfl⟩ := hB
  exact bp1_lit _ _ _ _ w
theorem br0123_lit (a0 a1 a2 a3 b0 b1 b2 b3 c0 c1 c2 c3 d0 d1 d2 d3 : Value) (w : World) : (Instr.build 103 #[(0, .agg #[a0, a1, a2, a3]), (1, .agg #[b0, b1, b2, b3]), (2, .agg #[c0, c1, c2, c3]), (3, .agg #[d0, d1, d2, d3])]).run Tryz.prog w = .ok (.agg #[a0, a1, a2, a3, b0, b1, b2, b3, c0, c1, c2, c3, d0, d1, d2, d3]) w := by kernel_rfl
theorem br0123 {A B C D : Array Value} (hA : IsNum A) (hB : IsNum B) (hC : IsNum C) (hD : IsNum D) (w : World) : (Instr.build 103 #[(0, .agg A), (1, .agg B), (2, .agg C), (3, .agg D)]).run Tryz.prog w = .ok (.agg (A ++ B ++ C ++ D)) w := by
  obtain ⟨fa, rfl⟩ := hA
  obtain ⟨fb, rfl⟩ := hB
  obtain ⟨fc, rfl⟩ := hC
  obtain ⟨fd, rfl⟩ := hD
  exact br0123_lit _ _ _ _ _ _ _ _ _ _ _ _ _ _ _ _ w
/-- A point with whether it is one, in memory. -/
def spotV (f : Nat → Nat) (b : Bool) : Array Value := (rowOf .u64 8 f ++ [Value.bool b]).toArray
def IsSpot (A : Array Value) : Prop := ∃ f b, A = spotV f b
theorem IsSpot.size {A : Array Value} (h : IsSpot A) : A.size = 9 := by obtain ⟨f, b, rfl⟩ := h; simp [spotV, rowOf_length]
end Go.Proofs.YtdajmekliodmcaaGreatDoor.P8
/- number of the document: the number that 32 bytes say, the lowest first. No condition but that there are 32. -/
namespace Go.Proofs.YtdajmekliodmcaaGreatDoor.P8
open Go.RowKit Go.Shelf
set_option linter.unusedVariables false
set_option linter.unusedSimpArgs false
end Go.Proofs.YtdajmekliodmcaaGreatDoor.P8
/- little and Little of the document: a word as eight bytes, the lowest first. No condition but that the word has 64 bits. -/
namespace Go.Proofs.YtdajmekliodmcaaGreatDoor.P8
open Go.RowKit Go.Shelf
set_option linter.unusedVariables false
set_option linter.unusedSimpArgs false
end Go.Proofs.YtdajmekliodmcaaGreatDoor.P8
/- bytes, Bytes, From of the document: the bytes of a number, and the number that bytes say. No condition but that the number has 256 bits, that the text may lie in memory. -/
namespace Go.Proofs.YtdajmekliodmcaaGreatDoor.P8
open Go.RowKit Go.Shelf
set_option linter.unusedVariables false
set_option linter.unusedSimpArgs false
theorem leVal_inj : ∀ l m : List UInt8, l.length = m.length → leVal l = leVal m → l = m
  | [], [], _, _ => rfl
  | [], _ :: _, h, _ => by simp at h
  | _ :: _, [], h, _ => by simp at h
  | x :: l, y :: m, h, e => by
    have hx := x.toNat_lt
    have hy := y.toNat_lt
    simp only [leVal] at e
    have h1 : x.toNat = y.toNat := by omega
    have h2 : leVal l = leVal m := by omega
    rw [UInt8.toNat_inj.1 h1, leVal_inj l m (by simpa using h) h2]
end Go.Proofs.YtdajmekliodmcaaGreatDoor.P8
/- Points as numbers of 256 bits, and back. No condition but what each names. -/
namespace Go.Proofs.YtdajmekliodmcaaGreatDoor.P8
set_option linter.unusedSimpArgs false
set_option linter.unusedVariables false
/-- 2^255. -/
def hb : Nat := 57896044618658097711785492504343953926634992332820282019728792003956564819968
theorem pp_hb : pp < hb := by decide
/-- A point's number: its Y, and whether its X is odd. -/
def encP (p : Nat × Nat) : Nat := p.2 + hb * (p.1 % 2)
end Go.Proofs.YtdajmekliodmcaaGreatDoor.P8
/- What the written walks use: a call, a new block, entering each function, numbers that are one. No condition but what each names. -/
namespace Go.Proofs.YtdajmekliodmcaaGreatDoor.P8
open Go.RowKit Go.Shelf
set_option linter.unusedVariables false
set_option linter.unusedSimpArgs false
/-- A call of a function, by what it is known to do. -/
theorem wpList_callF {P : Program} {ops : Array Oper} {rest : List Oper} {o : Oper} {a : Act} {w : World} {Q : Exit → Act → World → Prop} (hgd : o.guard = none) (g : FuncId) (args : Array Operand) (tys : Array TypeId) (ho : o.op = .call { callee := .value (.func g), args := args, argTypes := tys })
    (avs : Array Value) (eg : ∀ args w, (callFunc g args).run P w = .ok (.enter g args) w) {R : Ending → World → Prop} (hc : Calls P g avs w R)
    (hK : ∀ v w', R (.returned v) w' → wpList P ops Q rest (a.put o.dst v) w') (has : args.map a.eval = avs := by simp [Act.eval]) (hnp : ∀ c w', ¬ R (.panicked c) w' := by exact fun c w' h => by cases h.1) (hno : ∀ w', ¬ R .outgrown w' := by exact fun w' h => by cases h.1) : wpList P ops Q (o :: rest) a w := by
  refine wpList_plain hgd fun K hK2 => ?_
  have hev : a.eval (.func g) = .func (.func g) #[] #[] := rfl
  have hres : (resolve a.eval { callee := .value (.func g), args := args, argTypes := tys } o.type).run P w = .ok { target := .fn (.func g) #[], args := avs } w := by
    simp [resolve, hev, has, Deferred.ofValue]
  have hx : (execOp a.eval o).run P w = .ok (.enter g avs) w := by
    unfold execOp
    simp only [ho, Sem.run_bind, hres, Result.andThen_ok, invoke]
    simp [eg]
  unfold Oper.wp
  rw [hx]
  refine hc.mono ?_
  intro e w' hr
  cases e with
  | returned v => exact hK2 _ _ (hK v w' hr)
  | panicked c => exact (hnp c w' hr).elim
  | outgrown => exact (hno w' hr).elim
section
variable {P : Program} {ops : Array Oper} {Q : Exit → Act → World → Prop} {md : Region.Mode} {S : World → Prop} {f : Nat}
/-- What several orders come to, proved once. -/
theorem F_have {n0 : Nat} {l0 : Array Bool} {a0 : Act} {w0 : World} (n : Nat) (l : Array Bool) (R : Act → World → Prop) (hJ : ∀ a w, R a w → AnyF P md ops Q S f n l a w) (h : (∀ a w, R a w → AnyF P md ops Q S f n l a w) → AnyF P md ops Q S f n0 l0 a0 w0) : AnyF P md ops Q S f n0 l0 a0 w0 := h hJ
theorem F_to {n n2 : Nat} {l l2 : Array Bool} {a : Act} {w : World} (hn : n2 = n) (hl : l2 = l) (h : AnyF P md ops Q S f n l a w) : AnyF P md ops Q S f n2 l2 a w := by
  subst hn hl
  exact h
end
theorem exec_box {P : Program} {ρ : Operand → Value} {o : Oper} (w : World) (t : TypeId) (x : Operand) (ho : o.op = .box t x) (v : Value) (hx : ρ x = v) (A : Array Value) (hA : v.cells = A) :
    (execOp ρ o).run P w = .ok (.value (.pointer (some ⟨w.heap.size, 0, none⟩))) (w.alloc (.cells A t)) := by
  subst hx hA
  unfold execOp
  simp only [ho, Instr.box, Sem.run_bind, newVar, newRow, run_newObj_alloc, Sem.run_pure, Result.andThen_ok]
theorem loadA24 {W : World} {g : Nat} {A : Array Value} (hA : IsNum A) {t : TypeId} (hg : W.heap[g]? = some (.cells A t (0, 0))) : (loadVar 36 ⟨g, 0, none⟩).run Tryz.prog W = .ok (.agg A) W := load_part hg hA 0 (part_all A)
theorem dN_b4 : dN < 115792089237316195423570985008687907853269984665640564039457584007913129639936 := by rw [dN_val]; decide
theorem en30 : ∀ args w, (callFunc 89 args).run Tryz.prog w = .ok (.enter 89 args) w := enters_of Tryz.func89 (by kernel_rfl) rfl
theorem en40 : ∀ args w, (callFunc 130 args).run Tryz.prog w = .ok (.enter 130 args) w := enters_of Tryz.func130 (by kernel_rfl) rfl
theorem en41 : ∀ args w, (callFunc 131 args).run Tryz.prog w = .ok (.enter 131 args) w := enters_of Tryz.func131 (by kernel_rfl) rfl
theorem en45 : ∀ args w, (callFunc 92 args).run Tryz.prog w = .ok (.enter 92 args) w := enters_of Tryz.func92 (by kernel_rfl) rfl
theorem en48 : ∀ args w, (callFunc 93 args).run Tryz.prog w = .ok (.enter 93 args) w := enters_of Tryz.func93 (by kernel_rfl) rfl
theorem en49 : ∀ args w, (callFunc 63 args).run Tryz.prog w = .ok (.enter 63 args) w := enters_of Tryz.func63 (by kernel_rfl) rfl
theorem en53 : ∀ args w, (callFunc 133 args).run Tryz.prog w = .ok (.enter 133 args) w := enters_of Tryz.func133 (by kernel_rfl) rfl
end Go.Proofs.YtdajmekliodmcaaGreatDoor.P8
/- More of products of a point: by products, by remainders of the order. No condition but what each names. -/
namespace Go.Proofs.YtdajmekliodmcaaGreatDoor.P8
set_option linter.unusedSimpArgs false
set_option linter.unusedVariables false
end Go.Proofs.YtdajmekliodmcaaGreatDoor.P8
/- Points with a denominator and the product of their numbers (four numbers a point): sums and doubles. No condition but what each names. -/
namespace Go.Proofs.YtdajmekliodmcaaGreatDoor.P8
set_option linter.unusedSimpArgs false
set_option linter.unusedVariables false
def RepX (X Y Z T x y : K) : Prop := Z ≠ 0 ∧ X = x * Z ∧ Y = y * Z ∧ T = x * y * Z
theorem repX_rep {X Y Z T x y : K} (h : RepX X Y Z T x y) : Rep X Y Z x y := ⟨h.1, h.2.1, h.2.2.1⟩
theorem repX_one (x y : K) : RepX x y 1 (x * y) x y := ⟨k_one_ne, (Fin.mul_one x).symm, (Fin.mul_one y).symm, (Fin.mul_one _).symm⟩
theorem ext_close {E F G H x3 y3 v p m : K} (hv : v ≠ 0) (hp : p ≠ 0) (hm : m ≠ 0) (e1 : E = x3 * p * v) (e2 : H = y3 * m * v) (e3 : F = m * v) (e4 : G = p * v) : RepX (E * F) (G * H) (F * G) (E * H) x3 y3 := by
  subst e1 e2 e3 e4
  refine ⟨k_mul_ne (k_mul_ne hm hv) (k_mul_ne hp hv), ?_, ?_, ?_⟩
  · clear hv hp hm; grind
  · clear hv hp hm; grind
  · clear hv hp hm; grind
end Go.Proofs.YtdajmekliodmcaaGreatDoor.P8
/- Points as ratios with the product of their numbers beside them, as the package adds them; products by rows of bits. No condition but what each names. -/
namespace Go.Proofs.YtdajmekliodmcaaGreatDoor.P8
set_option linter.unusedSimpArgs false
set_option linter.unusedVariables false
abbrev Rat4 := Nat × Nat × Nat × Nat
def overR (p : Nat × Nat) : Rat4 := (p.1, p.2, 1, mulF p.1 p.2)
def sumR (p q : Rat4) : Rat4 :=
  (mulF (addF (mulF p.1 q.2.1) (mulF p.2.1 q.1)) (subF (mulF p.2.2.1 q.2.2.1) (mulF dN (mulF p.2.2.2 q.2.2.2))),
   mulF (addF (mulF p.2.1 q.2.1) (mulF p.1 q.1)) (addF (mulF p.2.2.1 q.2.2.1) (mulF dN (mulF p.2.2.2 q.2.2.2))),
   mulF (addF (mulF p.2.2.1 q.2.2.1) (mulF dN (mulF p.2.2.2 q.2.2.2))) (subF (mulF p.2.2.1 q.2.2.1) (mulF dN (mulF p.2.2.2 q.2.2.2))),
   mulF (addF (mulF p.1 q.2.1) (mulF p.2.1 q.1)) (addF (mulF p.2.1 q.2.1) (mulF p.1 q.1)))
def plainR (r : Rat4) : Nat × Nat := (mulF r.1 (invF r.2.2.1), mulF r.2.1 (invF r.2.2.1))
def RepR (r : Rat4) (x y : K) : Prop := RepX (toK r.1) (toK r.2.1) (toK r.2.2.1) (toK r.2.2.2) x y
theorem repR_over (p : Nat × Nat) : RepR (overR p) (toK p.1) (toK p.2) := by
  unfold RepR overR
  simp only [toK_mul]
  have h1 : toK 1 = 1 := rfl
  rw [h1]
  exact repX_one _ _
theorem rx_x (x1 y1 z1 x2 y2 z2 : K) : x1 * z1 * (y2 * z2) + y1 * z1 * (x2 * z2) = (x1 * y2 + y1 * x2) * (z1 * z2) := by grind
theorem rx_y (x1 y1 z1 x2 y2 z2 : K) : y1 * z1 * (y2 * z2) + x1 * z1 * (x2 * z2) = (y1 * y2 + x1 * x2) * (z1 * z2) := by grind
theorem rx_f (d x1 y1 z1 x2 y2 z2 : K) : z1 * z2 - d * (x1 * y1 * z1 * (x2 * y2 * z2)) = (1 - d * x1 * x2 * y1 * y2) * (z1 * z2) := by grind
theorem rx_g (d x1 y1 z1 x2 y2 z2 : K) : z1 * z2 + d * (x1 * y1 * z1 * (x2 * y2 * z2)) = (1 + d * x1 * x2 * y1 * y2) * (z1 * z2) := by grind
theorem repX_sum {X1 Y1 Z1 T1 X2 Y2 Z2 T2 x1 y1 x2 y2 : K} (h1 : RepX X1 Y1 Z1 T1 x1 y1) (h2 : RepX X2 Y2 Z2 T2 x2 y2) (o1 : onK x1 y1) (o2 : onK x2 y2) :
    RepX ((X1 * Y2 + Y1 * X2) * (Z1 * Z2 - dK * (T1 * T2))) ((Y1 * Y2 + X1 * X2) * (Z1 * Z2 + dK * (T1 * T2))) ((Z1 * Z2 + dK * (T1 * T2)) * (Z1 * Z2 - dK * (T1 * T2))) ((X1 * Y2 + Y1 * X2) * (Y1 * Y2 + X1 * X2)) (addX x1 y1 x2 y2) (addY x1 y1 x2 y2) := by
  obtain ⟨z1, rfl, rfl, rfl⟩ := h1
  obtain ⟨z2, rfl, rfl, rfl⟩ := h2
  rw [rx_x, rx_y, rx_f, rx_g]
  rw [← addX_mul o1 o2, ← addY_mul o1 o2]
  have h := ext_close (x3 := addX x1 y1 x2 y2) (y3 := addY x1 y1 x2 y2) (k_mul_ne z1 z2) (complete_plus o1 o2) (complete_minus o1 o2) rfl rfl rfl rfl
  obtain ⟨a, b, c, d⟩ := h
  refine ⟨?_, b.trans ?_, ?_, d.trans ?_⟩
  · rw [Fin.mul_comm]; exact a
  · rw [Fin.mul_comm ((1 + dK * x1 * x2 * y1 * y2) * (Z1 * Z2))]
  · rw [Fin.mul_comm, c, Fin.mul_comm ((1 + dK * x1 * x2 * y1 * y2) * (Z1 * Z2))]
  · rw [Fin.mul_comm ((1 + dK * x1 * x2 * y1 * y2) * (Z1 * Z2))]
theorem repR_sum {p q : Rat4} {x1 y1 x2 y2 : K} (h1 : RepR p x1 y1) (h2 : RepR q x2 y2) (o1 : onK x1 y1) (o2 : onK x2 y2) : RepR (sumR p q) (addX x1 y1 x2 y2) (addY x1 y1 x2 y2) := by
  unfold RepR sumR
  simp only [toK_mul, toK_add, toK_subM]
  exact repX_sum h1 h2 o1 o2
theorem plainR_rep {r : Rat4} {p : Nat × Nat} (hp : p.1 < pp ∧ p.2 < pp) (h : RepR r (toK p.1) (toK p.2)) : plainR r = p := by
  have h2 : RepN (r.1, r.2.1, r.2.2.1) (toK p.1) (toK p.2) := repX_rep h
  exact flatN_rep hp h2
/-- A product by a row of bits, as the package finds it. -/
def fastR (p : Nat × Nat) (l : List Bool) : Rat4 := l.foldl (fun t b => if b then sumR (sumR t t) (overR p) else sumR t t) (overR (0, 1))
theorem fastR_snoc (p : Nat × Nat) (l : List Bool) (b : Bool) : fastR p (l ++ [b]) = if b then sumR (sumR (fastR p l) (fastR p l)) (overR p) else sumR (fastR p l) (fastR p l) := by simp [fastR]
theorem fastR_rep {p : Nat × Nat} (hp : onN p) (l : List Bool) : RepR (fastR p l) (toK (mulN (hvB l) p).1) (toK (mulN (hvB l) p).2) := by
  obtain ⟨m, hm⟩ : ∃ m, m = l.reverse := ⟨_, rfl⟩
  have hl : l = m.reverse := by rw [hm, List.reverse_reverse]
  subst hl
  clear hm
  induction m with
  | nil =>
    rw [show hvB ([] : List Bool).reverse = 0 from rfl, mulN_zero]
    exact repR_over (0, 1)
  | cons b m ih =>
    rw [List.reverse_cons, fastR_snoc, hvB_snoc]
    have o := mulN_on hp (hvB m.reverse)
    have h2 : RepR (sumR (fastR p m.reverse) (fastR p m.reverse)) (toK (mulN (2 * hvB m.reverse) p).1) (toK (mulN (2 * hvB m.reverse) p).2) := by
      rw [mulN_double hp, addN_x, addN_y]
      exact repR_sum ih ih o.2.2 o.2.2
    cases b with
    | false => exact h2
    | true =>
      rw [if_pos rfl, show (true : Bool).toNat = 1 from rfl, mulN_succ hp, addN_x, addN_y]
      exact repR_sum h2 (repR_over p) (mulN_on hp (2 * hvB m.reverse)).2.2 hp.2.2
theorem mul_plain {p : Nat × Nat} (hp : onN p) (l : List Bool) : plainR (fastR p l) = mulN (hvB l) p := plainR_rep (mulN_lt _ p) (fastR_rep hp l)
end Go.Proofs.YtdajmekliodmcaaGreatDoor.P8
/- The 256 bits of a number, the highest first, and the number that they say; points with a denominator as rows of numbers. No condition but what each names. -/
namespace Go.Proofs.YtdajmekliodmcaaGreatDoor.P8
set_option linter.unusedSimpArgs false
open Go.RowKit
set_option linter.unusedVariables false
def bitB (n k : Nat) : Bool := decide (0 < n / 2 ^ k % 2)
/-- The first m bits. -/
def bitsTo (n m : Nat) : List Bool := (List.range m).map fun j => bitB n (255 - j)
theorem bitsTo_length (n m : Nat) : (bitsTo n m).length = m := by simp [bitsTo]
theorem bitsTo_succ (n m : Nat) : bitsTo n (m + 1) = bitsTo n m ++ [bitB n (255 - m)] := by simp [bitsTo, List.range_succ]
theorem bitB_nat (n k : Nat) : (bitB n k).toNat = n / 2 ^ k % 2 := by
  unfold bitB
  rcases Nat.mod_two_eq_zero_or_one (n / 2 ^ k) with h | h <;> rw [h] <;> rfl
theorem half_up (n k : Nat) : 2 * (n / 2 ^ (k + 1)) + n / 2 ^ k % 2 = n / 2 ^ k := by
  rw [Nat.pow_succ, ← Nat.div_div_eq_div_mul]
  omega
theorem hvB_to (n : Nat) (h0 : n / 2 ^ 256 = 0) : ∀ m, m ≤ 256 → hvB (bitsTo n m) = n / 2 ^ (256 - m)
  | 0, _ => by rw [Nat.sub_zero, h0]; rfl
  | m + 1, hm => by
    rw [bitsTo_succ, hvB_snoc, hvB_to n h0 m (by omega), bitB_nat]
    have h := half_up n (255 - m)
    rw [show 255 - m + 1 = 256 - m by omega] at h
    rw [h, show 255 - m = 256 - (m + 1) by omega]
theorem hvB_all (n : Nat) (hn : n < 115792089237316195423570985008687907853269984665640564039457584007913129639936) : hvB (bitsTo n 256) = n := by
  rw [hvB_to n (Nat.div_eq_of_lt hn) 256 (Nat.le_refl _), Nat.sub_self, Nat.pow_zero, Nat.div_one]
def ratV (r : Rat4) : Array Value := num r.1 ++ num r.2.1 ++ num r.2.2.1 ++ num r.2.2.2
theorem ratV_rw (r : Rat4) : IsRw 16 (ratV r) := rw_app (rw_app (rw_app (isRw4 (isNum _)) (isRw4 (isNum _))) (isRw4 (isNum _))) (isRw4 (isNum _))
def ptV (p : Nat × Nat) : Array Value := num p.1 ++ num p.2
theorem ptV_rw (p : Nat × Nat) : IsRw 8 (ptV p) := rw_app (isRw4 (isNum _)) (isRw4 (isNum _))
def B4r (t : Rat4) : Prop := t.1 < 115792089237316195423570985008687907853269984665640564039457584007913129639936 ∧ t.2.1 < 115792089237316195423570985008687907853269984665640564039457584007913129639936 ∧ t.2.2.1 < 115792089237316195423570985008687907853269984665640564039457584007913129639936 ∧ t.2.2.2 < 115792089237316195423570985008687907853269984665640564039457584007913129639936
theorem sumR_b4 (t u : Rat4) : B4r (sumR t u) := ⟨pp_lt (mulF_lt _ _), pp_lt (mulF_lt _ _), pp_lt (mulF_lt _ _), pp_lt (mulF_lt _ _)⟩
theorem overR_b4 {p : Nat × Nat} (hp : onN p) : B4r (overR p) := ⟨pp_lt hp.1, pp_lt hp.2.1, by show 1 < _; decide, pp_lt (mulF_lt _ _)⟩
theorem fastR_b4 (p : Nat × Nat) (l : List Bool) : B4r (fastR p l) := by
  obtain ⟨m, hm⟩ : ∃ m, m = l.reverse := ⟨_, rfl⟩
  have hl : l = m.reverse := by rw [hm, List.reverse_reverse]
  subst hl
  cases m with
  | nil => exact overR_b4 noneN_on
  | cons b m =>
    rw [List.reverse_cons, fastR_snoc]
    cases b <;> exact sumR_b4 _ _
end Go.Proofs.YtdajmekliodmcaaGreatDoor.P8
