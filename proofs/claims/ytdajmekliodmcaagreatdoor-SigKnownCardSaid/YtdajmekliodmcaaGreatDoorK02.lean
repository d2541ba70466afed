/- Several texts, one behind the other; each says by itself what it proves, and on what conditions. -/
import Derived.Test.YtdajmekliodmcaaGreatDoorK01
import Derived.Test.YtdajmekliodmcaaGreatDoorRows
import Derived.WalkKit
import Derived.WalkSpells
import Derived.WalkLawsBesides
import Derived.Handy
import Derived.Lib.Hide
import Derived.RegionTactic
import Derived.Maps.AppendAt
import Derived.Outline
import Derived.BigQuiet
import Derived.Deep.QuietTactic
import Derived.OneCell
namespace Go.Proofs.YtdajmekliodmcaaGreatDoor.P8
set_option linter.unusedSimpArgs false
set_option linter.unusedVariables false
def onK (x y : K) : Prop := y * y - x * x = 1 + dK * x * x * y * y
theorem not_sq_times {A B : K} (h : A * A = dK * (B * B)) : B = 0 := by
  by_cases hB : B = 0
  · exact hB
  · exfalso
    have h1 := k_mul_inv hB
    apply d_nonsq (A * kinv B)
    have h2 : A * kinv B * (A * kinv B) = A * A * (kinv B * kinv B) := by grind
    rw [h2, h]
    have h3 : dK * (B * B) * (kinv B * kinv B) = dK * ((B * kinv B) * (B * kinv B)) := by grind
    rw [h3, h1]
    grind
theorem k_two_ne : (2 : K) ≠ 0 := by decide
theorem complete_sq (x1 y1 x2 y2 e : K) (h1 : onK x1 y1) (h2 : onK x2 y2) (he : e = dK * x1 * x2 * y1 * y2) : e * e ≠ 1 := by
  intro hee
  have hi := ki_sq
  unfold onK at h1 h2
  have hx1 : x1 ≠ 0 := by rintro rfl; exact k_one_ne (by rw [← hee, he]; grind)
  have hy1 : y1 ≠ 0 := by rintro rfl; exact k_one_ne (by rw [← hee, he]; grind)
  have hy2 : y2 ≠ 0 := by rintro rfl; exact k_one_ne (by rw [← hee, he]; grind)
  have hxy := k_mul_ne hx1 hy1
  have hb : dK * x1 * x1 * y1 * y1 * (y2 * y2 - x2 * x2) = y1 * y1 - x1 * x1 := by grind
  have ha1 : (ki * x1 + e * y1) * (ki * x1 + e * y1) = dK * ((x1 * y1 * (ki * x2 + y2)) * (x1 * y1 * (ki * x2 + y2))) := by grind
  have ha2 : (ki * x1 - e * y1) * (ki * x1 - e * y1) = dK * ((x1 * y1 * (ki * x2 - y2)) * (x1 * y1 * (ki * x2 - y2))) := by grind
  have hz1 := (k_mul_zero (not_sq_times ha1)).resolve_left hxy
  have hz2 := (k_mul_zero (not_sq_times ha2)).resolve_left hxy
  have h2y : (2 : K) * y2 = 0 := by grind
  exact (k_mul_zero h2y).elim k_two_ne hy2
theorem complete_plus {x1 y1 x2 y2 : K} (h1 : onK x1 y1) (h2 : onK x2 y2) : 1 + dK * x1 * x2 * y1 * y2 ≠ 0 := by
  intro h
  exact complete_sq x1 y1 x2 y2 _ h1 h2 rfl (by grind)
theorem complete_minus {x1 y1 x2 y2 : K} (h1 : onK x1 y1) (h2 : onK x2 y2) : 1 - dK * x1 * x2 * y1 * y2 ≠ 0 := by
  intro h
  exact complete_sq x1 y1 x2 y2 _ h1 h2 rfl (by grind)
def addX (x1 y1 x2 y2 : K) : K := (x1 * y2 + y1 * x2) * kinv (1 + dK * x1 * x2 * y1 * y2)
def addY (x1 y1 x2 y2 : K) : K := (y1 * y2 + x1 * x2) * kinv (1 - dK * x1 * x2 * y1 * y2)
theorem addX_mul {x1 y1 x2 y2 : K} (h1 : onK x1 y1) (h2 : onK x2 y2) : addX x1 y1 x2 y2 * (1 + dK * x1 * x2 * y1 * y2) = x1 * y2 + y1 * x2 := (k_div (complete_plus h1 h2)).1 rfl
theorem addY_mul {x1 y1 x2 y2 : K} (h1 : onK x1 y1) (h2 : onK x2 y2) : addY x1 y1 x2 y2 * (1 - dK * x1 * x2 * y1 * y2) = y1 * y2 + x1 * x2 := (k_div (complete_minus h1 h2)).1 rfl
theorem addX_comm (x1 y1 x2 y2 : K) : addX x1 y1 x2 y2 = addX x2 y2 x1 y1 := by
  unfold addX
  rw [show x1 * y2 + y1 * x2 = x2 * y1 + y2 * x1 by grind, show dK * x1 * x2 * y1 * y2 = dK * x2 * x1 * y2 * y1 by grind]
theorem addY_comm (x1 y1 x2 y2 : K) : addY x1 y1 x2 y2 = addY x2 y2 x1 y1 := by
  unfold addY
  rw [show y1 * y2 + x1 * x2 = y2 * y1 + x2 * x1 by grind, show dK * x1 * x2 * y1 * y2 = dK * x2 * x1 * y2 * y1 by grind]
theorem on_zero {x y : K} (h : onK x y) : y * y - x * x - 1 - dK * x * x * y * y = 0 := by
  unfold onK at h
  grind
theorem on_of_zero {x y : K} (h : y * y - x * x - (1 + dK * x * x * y * y) = 0) : onK x y := by
  unfold onK
  grind
theorem close_alg (d A B e : K) : (B * (1 - e)) * (B * (1 - e)) * ((1 + e) * (1 + e)) - (A * (1 + e)) * (A * (1 + e)) * ((1 - e) * (1 - e)) - (1 - e * e) * (1 - e * e) - d * ((A * (1 + e)) * (A * (1 + e))) * ((B * (1 - e)) * (B * (1 - e))) =
    (B * B - A * A - (1 + d * A * A * B * B)) * ((1 + e) * (1 - e) * ((1 + e) * (1 - e))) := by grind
theorem times_zero2 (a b : K) : a * 0 + b * 0 = 0 := by rw [Fin.mul_zero, Fin.mul_zero, Fin.add_zero]
theorem times_zero3 (a b c : K) : a * 0 + b * 0 + c * 0 = 0 := by rw [Fin.mul_zero, Fin.mul_zero, Fin.mul_zero, Fin.add_zero, Fin.add_zero]
theorem add_on {x1 y1 x2 y2 : K} (h1 : onK x1 y1) (h2 : onK x2 y2) : onK (addX x1 y1 x2 y2) (addY x1 y1 x2 y2) := by
  have hne := k_mul_ne (k_mul_ne (complete_plus h1 h2) (complete_minus h1 h2)) (k_mul_ne (complete_plus h1 h2) (complete_minus h1 h2))
  have hid := close_id dK x1 y1 x2 y2
  rw [on_zero h1, on_zero h2, times_zero2, ← addX_mul h1 h2, ← addY_mul h1 h2, close_alg] at hid
  exact on_of_zero ((k_mul_zero hid).resolve_right hne)
theorem assocX_alg (d A B C D x1 y1 x3 y3 e f : K) : ((A * (1 + e)) * (1 - e) * y3 + (B * (1 - e)) * (1 + e) * x3) * ((1 - f * f) + d * x1 * y1 * (C * (1 + f)) * (D * (1 - f))) - (x1 * (D * (1 - f)) * (1 + f) + y1 * (C * (1 + f)) * (1 - f)) * ((1 - e * e) + d * (A * (1 + e)) * (B * (1 - e)) * x3 * y3) =
    ((A * y3 + B * x3) * (1 + d * x1 * C * y1 * D) - (x1 * D + y1 * C) * (1 + d * A * x3 * B * y3)) * ((1 + e) * (1 - e) * ((1 + f) * (1 - f))) := by grind
theorem assocY_alg (d A B C D x1 y1 x3 y3 e f : K) : ((B * (1 - e)) * (1 + e) * y3 + (A * (1 + e)) * (1 - e) * x3) * ((1 - f * f) - d * x1 * y1 * (C * (1 + f)) * (D * (1 - f))) - (y1 * (D * (1 - f)) * (1 + f) + x1 * (C * (1 + f)) * (1 - f)) * ((1 - e * e) - d * (A * (1 + e)) * (B * (1 - e)) * x3 * y3) =
    ((B * y3 + A * x3) * (1 - d * x1 * C * y1 * D) - (y1 * D + x1 * C) * (1 - d * A * x3 * B * y3)) * ((1 + e) * (1 - e) * ((1 + f) * (1 - f))) := by grind
theorem cross {L R u v m n : K} (hL : L * u = m) (hR : R * v = n) (h : m * v - n * u = 0) (hu : u ≠ 0) (hv : v ≠ 0) : L = R := by
  apply k_cancel (k_mul_ne hu hv)
  have h1 : L * (u * v) = (L * u) * v := by grind
  have h2 : R * (u * v) = (R * v) * u := by grind
  rw [h1, h2, hL, hR]
  grind
theorem assoc_x {x1 y1 x2 y2 x3 y3 : K} (h1 : onK x1 y1) (h2 : onK x2 y2) (h3 : onK x3 y3) :
    addX (addX x1 y1 x2 y2) (addY x1 y1 x2 y2) x3 y3 = addX x1 y1 (addX x2 y2 x3 y3) (addY x2 y2 x3 y3) := by
  have hne := k_mul_ne (k_mul_ne (complete_plus h1 h2) (complete_minus h1 h2)) (k_mul_ne (complete_plus h2 h3) (complete_minus h2 h3))
  have o12 := add_on h1 h2
  have o23 := add_on h2 h3
  have hid := assocX_id dK x1 y1 x2 y2 x3 y3
  rw [on_zero h1, on_zero h2, on_zero h3, times_zero3, ← addX_mul h1 h2, ← addY_mul h1 h2, ← addX_mul h2 h3, ← addY_mul h2 h3, assocX_alg] at hid
  exact cross (addX_mul o12 h3) (addX_mul h1 o23) ((k_mul_zero hid).resolve_right hne) (complete_plus o12 h3) (complete_plus h1 o23)
theorem assoc_y {x1 y1 x2 y2 x3 y3 : K} (h1 : onK x1 y1) (h2 : onK x2 y2) (h3 : onK x3 y3) :
    addY (addX x1 y1 x2 y2) (addY x1 y1 x2 y2) x3 y3 = addY x1 y1 (addX x2 y2 x3 y3) (addY x2 y2 x3 y3) := by
  have hne := k_mul_ne (k_mul_ne (complete_plus h1 h2) (complete_minus h1 h2)) (k_mul_ne (complete_plus h2 h3) (complete_minus h2 h3))
  have o12 := add_on h1 h2
  have o23 := add_on h2 h3
  have hid := assocY_id dK x1 y1 x2 y2 x3 y3
  rw [on_zero h1, on_zero h2, on_zero h3, times_zero3, ← addX_mul h1 h2, ← addY_mul h1 h2, ← addX_mul h2 h3, ← addY_mul h2 h3, assocY_alg] at hid
  exact cross (addY_mul o12 h3) (addY_mul h1 o23) ((k_mul_zero hid).resolve_right hne) (complete_minus o12 h3) (complete_minus h1 o23)
theorem on_none : onK 0 1 := by unfold onK; grind
theorem add_none_x (x y : K) : addX x y 0 1 = x := by
  unfold addX
  have h1 : dK * x * 0 * y * 1 = 0 := by rw [Fin.mul_zero, Fin.zero_mul, Fin.zero_mul]
  rw [h1, Fin.add_zero, Fin.mul_zero, Fin.mul_one, Fin.add_zero]
  have h := k_mul_inv k_one_ne
  grind
theorem add_none_y (x y : K) : addY x y 0 1 = y := by
  unfold addY
  have h1 : dK * x * 0 * y * 1 = 0 := by rw [Fin.mul_zero, Fin.zero_mul, Fin.zero_mul]
  rw [h1, show (1 : K) - 0 = 1 by decide, Fin.mul_zero, Fin.mul_one, Fin.add_zero]
  have h := k_mul_inv k_one_ne
  grind
def mulK : Nat → K → K → K × K
  | 0, _, _ => (0, 1)
  | n + 1, x, y => (addX (mulK n x y).1 (mulK n x y).2 x y, addY (mulK n x y).1 (mulK n x y).2 x y)
theorem mul_on {x y : K} (h : onK x y) : ∀ n, onK (mulK n x y).1 (mulK n x y).2
  | 0 => on_none
  | n + 1 => add_on (mul_on h n) h
theorem mul_add {x y : K} (h : onK x y) (m : Nat) : ∀ n, mulK (m + n) x y = (addX (mulK m x y).1 (mulK m x y).2 (mulK n x y).1 (mulK n x y).2, addY (mulK m x y).1 (mulK m x y).2 (mulK n x y).1 (mulK n x y).2)
  | 0 => by
    show mulK m x y = (addX (mulK m x y).1 (mulK m x y).2 0 1, addY (mulK m x y).1 (mulK m x y).2 0 1)
    rw [add_none_x, add_none_y]
  | n + 1 => by
    show (addX (mulK (m + n) x y).1 (mulK (m + n) x y).2 x y, addY (mulK (m + n) x y).1 (mulK (m + n) x y).2 x y) = (addX _ _ (addX (mulK n x y).1 (mulK n x y).2 x y) (addY (mulK n x y).1 (mulK n x y).2 x y), addY _ _ (addX (mulK n x y).1 (mulK n x y).2 x y) (addY (mulK n x y).1 (mulK n x y).2 x y))
    rw [mul_add h m n]
    show (addX (addX _ _ _ _) (addY _ _ _ _) x y, addY (addX _ _ _ _) (addY _ _ _ _) x y) = _
    rw [assoc_x (mul_on h m) (mul_on h n) h, assoc_y (mul_on h m) (mul_on h n) h]
theorem mul_one (x y : K) : mulK 1 x y = (x, y) := by
  show (addX 0 1 x y, addY 0 1 x y) = (x, y)
  rw [addX_comm, addY_comm, add_none_x, add_none_y]
def Rep (X Y Z x y : K) : Prop := Z ≠ 0 ∧ X = x * Z ∧ Y = y * Z
theorem rep_flat {X Y Z x y : K} (h : Rep X Y Z x y) : X * kinv Z = x ∧ Y * kinv Z = y := by
  obtain ⟨h0, rfl, rfl⟩ := h
  have h1 := k_mul_inv h0
  have h2 : x * Z * kinv Z = x * (Z * kinv Z) := by grind
  have h3 : y * Z * kinv Z = y * (Z * kinv Z) := by grind
  rw [h2, h3, h1, Fin.mul_one, Fin.mul_one]
  exact ⟨rfl, rfl⟩
def RepN (p : Nat × Nat × Nat) (x y : K) : Prop := Rep (toK p.1) (toK p.2.1) (toK p.2.2) x y
theorem toK_subM (a c d : Nat) : toK (subF a (mulF c d)) = toK a - toK c * toK d := by rw [toK_sub _ _ (pp_lt (mulF_lt _ _)), toK_mul]
def flatN (p : Nat × Nat × Nat) : Nat × Nat := (mulF p.1 (invF p.2.2), mulF p.2.1 (invF p.2.2))
theorem flatN_of {p : Nat × Nat × Nat} {x y : K} (h : RepN p x y) : flatN p = (x.val, y.val) := by
  have h1 := rep_flat h
  unfold flatN
  have e1 : toK (mulF p.1 (invF p.2.2)) = x := by rw [toK_mul, toK_inv]; exact h1.1
  have e2 : toK (mulF p.2.1 (invF p.2.2)) = y := by rw [toK_mul, toK_inv]; exact h1.2
  have f1 := congrArg Fin.val e1
  have f2 := congrArg Fin.val e2
  rw [toK_val, Nat.mod_eq_of_lt (mulF_lt _ _)] at f1 f2
  rw [f1, f2]
def onN (p : Nat × Nat) : Prop := p.1 < pp ∧ p.2 < pp ∧ onK (toK p.1) (toK p.2)
def addN (p q : Nat × Nat) : Nat × Nat := ((addX (toK p.1) (toK p.2) (toK q.1) (toK q.2)).val, (addY (toK p.1) (toK p.2) (toK q.1) (toK q.2)).val)
def mulN (n : Nat) (p : Nat × Nat) : Nat × Nat := ((mulK n (toK p.1) (toK p.2)).1.val, (mulK n (toK p.1) (toK p.2)).2.val)
theorem addN_x (p q : Nat × Nat) : toK (addN p q).1 = addX (toK p.1) (toK p.2) (toK q.1) (toK q.2) := toK_of _
theorem addN_y (p q : Nat × Nat) : toK (addN p q).2 = addY (toK p.1) (toK p.2) (toK q.1) (toK q.2) := toK_of _
theorem mulN_x (n : Nat) (p : Nat × Nat) : toK (mulN n p).1 = (mulK n (toK p.1) (toK p.2)).1 := toK_of _
theorem mulN_y (n : Nat) (p : Nat × Nat) : toK (mulN n p).2 = (mulK n (toK p.1) (toK p.2)).2 := toK_of _
theorem addN_lt (p q : Nat × Nat) : (addN p q).1 < pp ∧ (addN p q).2 < pp := ⟨(addX (toK p.1) (toK p.2) (toK q.1) (toK q.2)).isLt, (addY (toK p.1) (toK p.2) (toK q.1) (toK q.2)).isLt⟩
theorem mulN_lt (n : Nat) (p : Nat × Nat) : (mulN n p).1 < pp ∧ (mulN n p).2 < pp := ⟨(mulK n (toK p.1) (toK p.2)).1.isLt, (mulK n (toK p.1) (toK p.2)).2.isLt⟩
theorem pair_ext {p q : Nat × Nat} (hp : p.1 < pp ∧ p.2 < pp) (hq : q.1 < pp ∧ q.2 < pp) (h1 : toK p.1 = toK q.1) (h2 : toK p.2 = toK q.2) : p = q :=
  Prod.ext (toK_inj hp.1 hq.1 h1) (toK_inj hp.2 hq.2 h2)
theorem onN_lt {p : Nat × Nat} (hp : onN p) : p.1 < pp ∧ p.2 < pp := ⟨hp.1, hp.2.1⟩
theorem onN_of {p : Nat × Nat} (hp : p.1 < pp ∧ p.2 < pp) (h : onK (toK p.1) (toK p.2)) : onN p := ⟨hp.1, hp.2, h⟩
theorem mulN_on {p : Nat × Nat} (hp : onN p) (n : Nat) : onN (mulN n p) := by
  refine onN_of (mulN_lt n p) ?_
  rw [mulN_x, mulN_y]
  exact mul_on hp.2.2 n
theorem val_toK {a : Nat} (h : a < pp) : (toK a).val = a := by rw [toK_val, Nat.mod_eq_of_lt h]
theorem noneN_on : onN (0, 1) := by
  refine onN_of ⟨pp_pos, by decide⟩ ?_
  show onK (toK 0) (toK 1)
  rw [toK_zero, toK_one]
  exact on_none
theorem mulN_zero (p : Nat × Nat) : mulN 0 p = (0, 1) := by
  refine pair_ext (mulN_lt _ _) (onN_lt noneN_on) ?_ ?_
  · rw [mulN_x]
    show (0 : K) = toK 0
    exact toK_zero.symm
  · rw [mulN_y]
    show (1 : K) = toK 1
    exact toK_one.symm
theorem mulN_add {p : Nat × Nat} (hp : onN p) (m n : Nat) : mulN (m + n) p = addN (mulN m p) (mulN n p) := by
  refine pair_ext (mulN_lt _ _) (addN_lt _ _) ?_ ?_
  · rw [mulN_x, addN_x, mulN_x, mulN_y, mulN_x, mulN_y, mul_add hp.2.2]
  · rw [mulN_y, addN_y, mulN_x, mulN_y, mulN_x, mulN_y, mul_add hp.2.2]
theorem mulN_one {p : Nat × Nat} (hp : onN p) : mulN 1 p = p := by
  refine pair_ext (mulN_lt _ _) (onN_lt hp) ?_ ?_
  · rw [mulN_x, mul_one]
  · rw [mulN_y, mul_one]
theorem mulN_succ {p : Nat × Nat} (hp : onN p) (n : Nat) : mulN (n + 1) p = addN (mulN n p) p := by rw [mulN_add hp, mulN_one hp]
theorem mulN_double {p : Nat × Nat} (hp : onN p) (n : Nat) : mulN (2 * n) p = addN (mulN n p) (mulN n p) := by rw [Nat.two_mul, mulN_add hp]
theorem flatN_rep {t : Nat × Nat × Nat} {p : Nat × Nat} (hp : p.1 < pp ∧ p.2 < pp) (h : RepN t (toK p.1) (toK p.2)) : flatN t = p := by
  rw [flatN_of h, val_toK hp.1, val_toK hp.2]
def baseN : Nat × Nat := (15112221349535400772501151409588531511454012693041857206046113283949847762202, 46316835694926478169428394003475163141307993866256225615783033603165251855960)
def hvB (l : List Bool) : Nat := l.foldl (fun n b => 2 * n + b.toNat) 0
theorem hvB_snoc (l : List Bool) (b : Bool) : hvB (l ++ [b]) = 2 * hvB l + b.toNat := by simp [hvB]
def hb : Nat := 57896044618658097711785492504343953926634992332820282019728792003956564819968
theorem pp_hb : pp < hb := by decide
def fromU (y : Nat) : Nat := mulF (subF (mulF y y) 1) (invF (addF (mulF dN (mulF y y)) 1))
def encP (p : Nat × Nat) : Nat := p.2 + hb * (p.1 % 2)
def decP (n : Nat) : (Nat × Nat) × Bool :=
  if n % hb < pp ∧ (rootF (fromU (n % hb))).2 = true ∧ ¬ (n / hb = 1 ∧ (rootF (fromU (n % hb))).1 = 0) then
    ((if n / hb = 1 then subF 0 (rootF (fromU (n % hb))).1 else (rootF (fromU (n % hb))).1, n % hb), true) else ((0, 0), false)
theorem pp_lit : pp = 57896044618658097711785492504343953926634992332820282019728792003956564819949 := rfl
theorem neg_zero : subF 0 0 = 0 := by decide
def decQ (y q : Nat) : (Nat × Nat) × Bool :=
  if y < pp ∧ (rootF (fromU y)).2 = true ∧ ¬ (q = 1 ∧ (rootF (fromU y)).1 = 0) then ((if q = 1 then subF 0 (rootF (fromU y)).1 else (rootF (fromU y)).1, y), true) else ((0, 0), false)
theorem decP_eq (n : Nat) : decP n = decQ (n % hb) (n / hb) := rfl
open Go.RowKit
section
variable {P : Program}
theorem addr_add (g o j : Nat) : (⟨g, o, none⟩ : Addr).add j = ⟨g, o + j, none⟩ := by unfold Addr.add; split <;> simp_all
theorem run_loadVar_seg (w : World) (ty : TypeId) (g off : Nat) (cs : List Value) (d : TypeDesc) (hc : ∀ j v, cs[j]? = some v → w.cell? ⟨g, off + j, none⟩ = some v)
    (hu : P.underlying ty = some d) (hd : (match d with | .struct _ | .array _ _ => true | _ => false) = true) (hi : (P.info? ty).map (·.size) = some cs.length) :
    (loadVar ty ⟨g, off, none⟩).run P w = .ok (.agg cs.toArray) w := by
  have hl : (loadCells ⟨g, off, none⟩ cs.length).run P w = .ok cs.toArray w :=
    run_loadCells_list (P := P) w ⟨g, off, none⟩ cs (fun j v hv => by rw [addr_add]; exact hc j v hv)
  cases hq : P.info? ty with
  | none => simp [hq] at hi
  | some i =>
    have hs : i.size = cs.length := by simpa [hq] using hi
    have hagg : (isAgg ty).run P w = .ok true w := by
      unfold isAgg
      rw [Sem.run_bind, run_underlying hu w]
      cases d <;> simp_all
    simp [loadVar, Sem.run_bind, hagg, sizeOf, typeInfo, hq, hs, hl]
def splice (cur : Array Value) (off : Nat) (cs : List Value) : Array Value := (cur.toList.take off ++ cs ++ cur.toList.drop (off + cs.length)).toArray
theorem run_storeVar_seg (w : World) (ty : TypeId) (g off : Nat) (cur : Array Value) (t : TypeId) (cs : List Value) (hg : w.heap[g]? = some (.cells cur t (0, 0))) (hfit : off + cs.length ≤ cur.size)
    (h1 : ∀ v ∈ cs, v.oneCell' = true) (hi : (P.info? ty).map (·.size) = some cs.length) :
    (storeVar ty ⟨g, off, none⟩ (.agg cs.toArray)).run P w = .ok () (w.setRow g (splice cur off cs)) := by
  have hst := run_storeCells_at P g off t cs 0 cur w hg (by simpa using hfit) h1
  cases hq : P.info? ty with
  | none => simp [hq] at hi
  | some i =>
    have hs : i.size = cs.length := by simpa [hq] using hi
    simp only [Nat.add_zero] at hst
    simp [storeVar, sizeOf, typeInfo, hq, hs, Value.cells, hst, splice]
theorem wpList_run {ops : Array Oper} {rest : List Oper} {o : Oper} {a : Act} {w w2 : World} {Q : Exit → Act → World → Prop} (hgd : o.guard = none) (v : Value)
    (hrun : (execOp a.eval o).run P w = .ok (.value v) w2) (h : wpList P ops Q rest (a.put o.dst v) w2) : wpList P ops Q (o :: rest) a w :=
  wpList_plain hgd fun K hK => by unfold Oper.wp; rw [hrun]; exact hK _ _ h
theorem wpList_run0 {ops : Array Oper} {rest : List Oper} {o : Oper} {a : Act} {w w2 : World} {Q : Exit → Act → World → Prop} (hgd : o.guard = none)
    (hrun : (execOp a.eval o).run P w = .ok .skip w2) (h : wpList P ops Q rest (a.put o.dst undef) w2) : wpList P ops Q (o :: rest) a w :=
  wpList_plain hgd fun K hK => by unfold Oper.wp; rw [hrun]; exact hK _ _ h
theorem exec_build1 {ρ : Operand → Value} {o : Oper} (w : World) (t : TypeId) (k : Nat) (x : Operand) (ho : o.op = .build t #[(k, x)]) (u : Value) (hx : ρ x = u) (v : Value)
    (hrun : (Instr.build t #[(k, u)]).run P w = .ok v w) : (execOp ρ o).run P w = .ok (.value v) w := by
  subst hx
  unfold execOp
  simp [ho, hrun]
theorem exec_store_seg {ρ : Operand → Value} {o : Oper} (w : World) (ty : TypeId) (x y : Operand) (ho : o.op = .store ty x y)
    (g off : Nat) (hx : ρ x = .pointer (some ⟨g, off, none⟩)) (cs : List Value) (hy : ρ y = .agg cs.toArray) (cur : Array Value) (t : TypeId) (hg : w.heap[g]? = some (.cells cur t (0, 0))) (hfit : off + cs.length ≤ cur.size)
    (h1 : ∀ v ∈ cs, v.oneCell' = true) (hi : (P.info? ty).map (·.size) = some cs.length) :
    (execOp ρ o).run P w = .ok .skip (w.setRow g (splice cur off cs)) := by
  unfold execOp
  simp only [ho, hx, hy, Instr.storeAt, Instr.sureAddr, Sem.run_bind, Sem.run_pure, Result.andThen_ok, run_storeVar_seg w ty g off cur t cs hg hfit h1 hi]
theorem exec_alloc_agg {ρ : Operand → Value} {o : Oper} (w : World) (ty : TypeId) (ho : o.op = .alloc ty) (cs : Array Value) (hz : (zeroValue ty).run P w = .ok (.agg cs) w) :
    (execOp ρ o).run P w = .ok (.value (.pointer (some ⟨w.heap.size, 0, none⟩))) (w.alloc (.cells cs ty)) := by
  unfold execOp
  simp only [ho, Instr.alloc, Sem.run_bind, hz, Result.andThen_ok, newVar, newRow, Value.cells, run_newObj_alloc, Sem.run_pure]
theorem setRow_alloc (w : World) (c c2 : Array Value) (t : TypeId) (fr : Nat × Nat) (k : Nat) (hk : k = w.heap.size) : (w.alloc (.cells c t fr)).setRow k c2 = w.alloc (.cells c2 t fr) := by
  subst hk
  have e : (w.heap.push (Obj.cells c t fr)).modify w.heap.size (fun | .cells _ elem f => .cells c2 elem f | o => o) = w.heap.push (Obj.cells c2 t fr) := by
    apply Array.ext
    · rw [Array.size_modify, Array.size_push, Array.size_push]
    · intro i h1 h2
      rw [Array.getElem_modify]
      by_cases e : w.heap.size = i
      · subst e; rw [if_pos rfl, Array.getElem_push_eq, Array.getElem_push_eq]
      · have h3 : i < w.heap.size := by rw [Array.size_push] at h2; omega
        rw [if_neg e, Array.getElem_push_lt h3, Array.getElem_push_lt h3]
  unfold World.setRow World.alloc
  exact congrArg (fun h : Array Obj => ({ w with heap := h } : World)) e
theorem splice_all (cur : Array Value) (cs : List Value) (h : cur.size = cs.length) : splice cur 0 cs = cs.toArray := by
  unfold splice
  simp [List.drop_eq_nil_of_le, h]
theorem AllReady.run {ops : Array Oper} {Q : Exit → Act → World → Prop} {md : Region.Mode} {fuel : Nat} {listed : Array Bool} {a : Act} {w w2 : World} {i : Nat} {o : Oper} {rs : List Nat} (ho : ops[i]? = some o) (hg : o.guard = none) (v : Value)
    (hrun : (execOp a.eval o).run P w = .ok (.value v) w2) (h : wpAny P md ops Q fuel (listed.setIfInBounds i true) (a.put o.dst v) w2)
    (hs : AllReady P md ops Q fuel listed a w rs) : AllReady P md ops Q fuel listed a w (i :: rs) :=
  AllReady.cons ho (fun K' hK => by rw [if_pos (by simp [Region.wanted, hg])]; unfold Oper.wp; rw [hrun]; exact hK _ _ h) hs
theorem AllReady.run0 {ops : Array Oper} {Q : Exit → Act → World → Prop} {md : Region.Mode} {fuel : Nat} {listed : Array Bool} {a : Act} {w w2 : World} {i : Nat} {o : Oper} {rs : List Nat} (ho : ops[i]? = some o) (hg : o.guard = none)
    (hrun : (execOp a.eval o).run P w = .ok .skip w2) (h : wpAny P md ops Q fuel (listed.setIfInBounds i true) (a.put o.dst undef) w2)
    (hs : AllReady P md ops Q fuel listed a w rs) : AllReady P md ops Q fuel listed a w (i :: rs) :=
  AllReady.cons ho (fun K' hK => by rw [if_pos (by simp [Region.wanted, hg])]; unfold Oper.wp; rw [hrun]; exact hK _ _ h) hs
theorem exec_append_own (w : World) (base : Nat) (t e : TypeId) (i : TypeInfo) (z : Value) (size bytes : Nat) (ht : P.underlying t = some (.slice e)) (hi : P.info? e = some i) (hz : i.zero = some z)
    (hsize : i.size = size) (hby : i.bytes = bytes) (hzs : z.cells.size = size) (hsz : 0 < size)
    (v : Value) (n : Nat) (xs : List Value) (hown : w.ownsRow base e size v n xs)
    (a : Addr) (m c : Nat) (news : List Value) (hl : news.length = m * size) (hnews : ∀ j u, news[j]? = some u → w.cell? (a.add j) = some u) (h1 : ∀ u ∈ news, u.oneCell' = true)
    (h63 : n + m ≤ maxLen) (hbytes : (n + m) * bytes ≤ 140737488355328) (hbase : base ≤ w.heap.size) :
    ∃ v' w', (∀ (ρ : Operand → Value) (o : Oper) (s x : Operand), o.op = Op.call { callee := Callee.builtin Builtin.append, args := #[s, x], argTypes := #[t, t] } → ρ s = v → ρ x = .slice (some a) m c → (execOp ρ o).run P w = .ok (.value v') w') ∧
      w'.ownsRow base e size v' (n + m) (xs ++ news) ∧ w.grownBy w' v.ownBlock ∧ (v'.ownBlock = v.ownBlock ∨ v'.ownBlock = some w.heap.size) := by
  obtain ⟨v', w', hrun, h2, h3, -, h4⟩ := run_append_own_at (P := P) w base t t e i z size bytes ht hi hz hsize hby hzs hsz v n xs hown a m c news hl hnews h1 h63 hbytes hbase
  refine ⟨v', w', ?_, h2, h3, h4⟩
  intro ρ o s x ho hs hx
  have hrun2 : (Builtin.append_ #[t, t] o.type #[v, .slice (some a) m c]).run P w = .ok v' w' := hrun
  unfold execOp
  simp [ho, resolve, invoke, builtin, hs, hx, hrun2]
section
variable {ops : Array Oper} {Q : Exit → Act → World → Prop} {md : Region.Mode} {fuel : Nat} {listed : Array Bool} {a : Act} {w w2 w3 : World} {i j : Nat} {rs : List Nat}
theorem AllReady.op (d : Option Tmp) (opr : Op) (ho : (ops[i]?).map (fun o => (o.dst, o.op, o.guard)) = some (d, opr, none)) (v : Value)
    (hrun : ∀ o : Oper, o.op = opr → (execOp a.eval o).run P w = .ok (.value v) w2) (h : wpAny P md ops Q fuel (listed.setIfInBounds i true) (a.put d v) w2)
    (hs : AllReady P md ops Q fuel listed a w rs) : AllReady P md ops Q fuel listed a w (i :: rs) := by
  cases hq : ops[i]? with
  | none => simp [hq] at ho
  | some o =>
    simp [hq] at ho
    obtain ⟨rfl, rfl, hg⟩ := ho
    exact AllReady.run hq hg v (hrun o rfl) h hs
theorem AllReady.op0 (opr : Op) (ho : (ops[i]?).map (fun o => (o.dst, o.op, o.guard)) = some (none, opr, none))
    (hrun : ∀ o : Oper, o.op = opr → (execOp a.eval o).run P w = .ok .skip w2) (h : wpAny P md ops Q fuel (listed.setIfInBounds i true) a w2)
    (hs : AllReady P md ops Q fuel listed a w rs) : AllReady P md ops Q fuel listed a w (i :: rs) := by
  cases hq : ops[i]? with
  | none => simp [hq] at ho
  | some o =>
    simp [hq] at ho
    obtain ⟨hd, rfl, hg⟩ := ho
    exact AllReady.run0 hq hg (hrun o rfl) (by rw [hd]; exact h) hs
theorem any_one (i : Nat) (d : Option Tmp) (opr : Op) (hr : Region.ready md ops listed = [i]) (ho : (ops[i]?).map (fun o => (o.dst, o.op, o.guard)) = some (d, opr, none)) (v : Value)
    (hrun : ∀ o : Oper, o.op = opr → (execOp a.eval o).run P w = .ok (.value v) w2) (h : wpAny P md ops Q fuel (listed.setIfInBounds i true) (a.put d v) w2) : wpAny P md ops Q (fuel + 1) listed a w :=
  wpAny_ready hr (by simp) (AllReady.op d opr ho v hrun h AllReady.nil)
end
theorem exec_load_one {ρ : Operand → Value} {o : Oper} (w : World) (ty : TypeId) (x : Operand) (ho : o.op = .load ty x) (ad : Addr) (hx : ρ x = .pointer (some ad)) (v : Value) (hc : w.cell? ad = some v)
    (d : TypeDesc) (hu : P.underlying ty = some d) (hd : (match d with | .struct _ | .array _ _ => true | _ => false) = false) : (execOp ρ o).run P w = .ok (.value v) w := by
  have hagg : (isAgg ty).run P w = .ok false w := by
    unfold isAgg
    rw [Sem.run_bind, run_underlying hu w]
    cases d <;> simp_all
  unfold execOp
  simp [ho, hx, Instr.loadAt, Instr.sureAddr, loadVar, hagg, hc]
theorem exec_store_one {ρ : Operand → Value} {o : Oper} (w : World) (ty : TypeId) (x y : Operand) (ho : o.op = .store ty x y) (ad : Addr) (hx : ρ x = .pointer (some ad)) (v : Value) (hy : ρ y = v)
    (h1 : v.oneCell' = true) (h2 : v.cells = #[v]) (u : Value) (hc : w.cell? ad = some u) (hf : w.frozen? ad = false) (hi : (P.info? ty).map (·.size) = some 1) : (execOp ρ o).run P w = .ok .skip (w.setCell ad v) := by
  cases hq : P.info? ty with
  | none => simp [hq] at hi
  | some i =>
    have hs : i.size = 1 := by simpa [hq] using hi
    have hst : (store ad v).run P w = .ok () (w.setCell ad v) := by rw [run_store P w ad v .plain h1]; simp [hc, hf]
    unfold execOp
    simp [ho, hx, hy, Instr.storeAt, Instr.sureAddr, storeVar, sizeOf, typeInfo, hq, hs, h2, storeCells]
    rw [Addr.add_zero', hst]; rfl
theorem exec_move {ρ : Operand → Value} {o : Oper} (x : Operand) (ho : o.op = .move x) (v : Value) (hx : ρ x = v) (w : World) : (execOp ρ o).run P w = .ok (.value v) w := by
  subst hx; unfold execOp; simp [ho]
end
theorem sT {α : Type} (l : List α) (i : Nat) (a : α) : l.toArray.setIfInBounds i a = (l.set i a).toArray := List.setIfInBounds_toArray ..
theorem sS {α : Type} (x : α) (l : List α) (n : Nat) (a : α) : (x :: l).set (n + 1) a = x :: l.set n a := rfl
theorem sZ {α : Type} (x : α) (l : List α) (a : α) : (x :: l).set 0 a = a :: l := rfl
end Go.Proofs.YtdajmekliodmcaaGreatDoor.P8
namespace Go.Proofs.YtdajmekliodmcaaGreatDoor.P8
set_option linter.unusedSimpArgs false
open Go.RowKit
set_option linter.unusedVariables false
theorem wrapM (n : Nat) : IntKind.u64.wrap (n : Int) = ((n % 18446744073709551616 : Nat) : Int) := by
  have h : IntKind.u64.wrap (n : Int) = (n : Int) % 18446744073709551616 := by simp [IntKind.wrap, IntKind.bits, IntKind.signed]
  rw [h]; omega
theorem wrap_id {n : Nat} (hn : n < 18446744073709551616) : IntKind.u64.wrap (n : Int) = (n : Int) := by
  rw [wrapM, Nat.mod_eq_of_lt hn]
def rowOf (kd : IntKind) (n : Nat) (f : Nat → Nat) : List Value := (List.range n).map fun j => Value.int kd (f j)
theorem rowOf_get (kd : IntKind) (n : Nat) (f : Nat → Nat) (j : Nat) (hj : j < n) : (rowOf kd n f)[j]? = some (.int kd (f j)) := by
  unfold rowOf
  rw [List.getElem?_map, List.getElem?_range hj]; rfl
theorem rowOf_length (kd : IntKind) (n : Nat) (f : Nat → Nat) : (rowOf kd n f).length = n := by simp [rowOf]
theorem rowOf_size (kd : IntKind) (n : Nat) (f : Nat → Nat) : (rowOf kd n f).toArray.size = n := by simp [rowOf]
theorem rowOf_one (kd : IntKind) (n : Nat) (f : Nat → Nat) : ∀ v ∈ rowOf kd n f, v.oneCell' = true := by
  intro v hv
  simp [rowOf] at hv
  obtain ⟨j, _, rfl⟩ := hv
  rfl
theorem rowOf_ext {kd : IntKind} {n : Nat} {f g : Nat → Nat} (h : ∀ j, j < n → f j = g j) : rowOf kd n f = rowOf kd n g := by
  unfold rowOf
  apply List.map_congr_left
  intro j hj
  rw [h j (List.mem_range.1 hj)]
def upd (f : Nat → Nat) (k v : Nat) : Nat → Nat := fun j => if j = k then v else f j
theorem rowOf_set (kd : IntKind) (n : Nat) (f : Nat → Nat) (k v : Nat) : (rowOf kd n f).toArray.setIfInBounds k (.int kd v) = (rowOf kd n (upd f k v)).toArray := by
  apply Array.ext'
  rw [Array.toList_setIfInBounds]
  apply List.ext_getElem?
  intro j
  show ((rowOf kd n f).set k _)[j]? = (rowOf kd n (upd f k v))[j]?
  rw [List.getElem?_set, rowOf_length]
  by_cases hj : j < n
  · rw [rowOf_get _ _ _ _ hj, rowOf_get _ _ _ _ hj]
    unfold upd
    by_cases e : k = j
    · subst e
      rw [if_pos rfl, if_pos hj, if_pos rfl]
    · rw [if_neg e, if_neg (fun h => e h.symm)]
  · rw [List.getElem?_eq_none (by rw [rowOf_length]; omega), List.getElem?_eq_none (by rw [rowOf_length]; omega)]
    by_cases e : k = j
    · rw [if_pos e, if_neg (by omega)]
    · rw [if_neg e]
def Row (w : World) (g : Nat) (t : TypeId) (kd : IntKind) (n : Nat) (f : Nat → Nat) : Prop := w.heap[g]? = some (.cells (rowOf kd n f).toArray t (0, 0))
theorem Row.cell {w : World} {g : Nat} {t : TypeId} {kd : IntKind} {n : Nat} {f : Nat → Nat} (h : Row w g t kd n f) (j : Nat) (hj : j < n) : w.cell? ⟨g, j, none⟩ = some (.int kd (f j)) := by
  rw [cell_of_row w g j _ t (0, 0) h, List.getElem?_toArray, rowOf_get _ _ _ _ hj]
theorem Row.free {w : World} {g : Nat} {t : TypeId} {kd : IntKind} {n : Nat} {f : Nat → Nat} (h : Row w g t kd n f) (j : Nat) : w.frozen? ⟨g, j, none⟩ = false := by
  have h' : w.heap[g]? = some (.cells (rowOf kd n f).toArray t (0, 0)) := h
  simp [World.frozen?, h']
theorem Row.lt {w : World} {g : Nat} {t : TypeId} {kd : IntKind} {n : Nat} {f : Nat → Nat} (h : Row w g t kd n f) : g < w.heap.size := lt_of_block h
theorem Row.set {w : World} {g : Nat} {t : TypeId} {kd : IntKind} {n : Nat} {f : Nat → Nat} (h : Row w g t kd n f) (k v : Nat) : Row (w.setCell ⟨g, k, none⟩ (.int kd v)) g t kd n (upd f k v) := by
  unfold Row
  rw [← rowOf_set]
  exact heap_setCell_same w g k _ t _ h
theorem Row.other {w : World} {g : Nat} {t : TypeId} {kd : IntKind} {n : Nat} {f : Nat → Nat} (h : Row w g t kd n f) (a : Addr) (v : Value) (ha : g ≠ a.block) : Row (w.setCell a v) g t kd n f := by
  unfold Row
  rw [heap_setCell_other _ _ _ _ ha]
  exact h
theorem Row.ext {w : World} {g : Nat} {t : TypeId} {kd : IntKind} {n : Nat} {f f' : Nat → Nat} (h : Row w g t kd n f) (he : ∀ j, j < n → f j = f' j) : Row w g t kd n f' := by
  unfold Row
  rw [← rowOf_ext he]; exact h
theorem Row.seg {w : World} {g : Nat} {t : TypeId} {kd : IntKind} {n : Nat} {f : Nat → Nat} (h : Row w g t kd n f) : ∀ j v, (rowOf kd n f)[j]? = some v → w.cell? ⟨g, 0 + j, none⟩ = some v := by
  intro j v hv
  rw [cell_of_row w g (0 + j) _ t (0, 0) h, Nat.zero_add, List.getElem?_toArray, hv]
theorem Row.new (w : World) (t : TypeId) (kd : IntKind) (n : Nat) (f : Nat → Nat) : Row (w.alloc (.cells (rowOf kd n f).toArray t)) w.heap.size t kd n f := heap_alloc_new w _
theorem Row.alloc {w : World} {g : Nat} {t : TypeId} {kd : IntKind} {n : Nat} {f : Nat → Nat} (h : Row w g t kd n f) (o : Obj) : Row (w.alloc o) g t kd n f := by
  unfold Row
  rw [Below.heap_alloc _ _ _ h.lt]; exact h
theorem Row.below {w w' : World} {g : Nat} {t : TypeId} {kd : IntKind} {n : Nat} {f : Nat → Nat} (h : Row w g t kd n f) (hb : Below w.heap.size w w') : Row w' g t kd n f := by
  unfold Row
  rw [hb.block g h.lt]; exact h
end Go.Proofs.YtdajmekliodmcaaGreatDoor.P8
