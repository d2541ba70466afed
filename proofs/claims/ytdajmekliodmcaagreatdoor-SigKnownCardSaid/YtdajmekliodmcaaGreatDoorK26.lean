/- Several texts, one behind the other; each says by itself what it proves, and on what conditions. -/
import Derived.Test.YtdajmekliodmcaaGreatDoorK25
import Derived.Test.YtdajmekliodmcaaGreatDoorTie
import Derived.Test.YtdajmekliodmcaaGreatDoorCards
import Derived.ProofKit
import Derived.LaidMore
import Derived.LaidHandle
import Derived.LaidLaws
import Derived.OpenShut
import Derived.ChangeArms
import Derived.Lay
import Derived.Stop.Joined
namespace Go.Proofs.YtdajmekliodmcaaGreatDoor.P8
set_option linter.unusedSimpArgs false
set_option linter.unusedVariables false
theorem rootF_square_is (a : Nat) : (rootF (mulF a a)).1 = a % pp ∨ (rootF (mulF a a)).1 = subF 0 (a % pp) := by
  have h := rootF_sq _ (rootF_square a)
  rw [Nat.mod_eq_of_lt (mulF_lt a a)] at h
  have hx := rootF_lt (mulF a a)
  generalize (rootF (mulF a a)).1 = x at *
  have hn : a % pp < pp := Nat.mod_lt _ pp_pos
  have hpp : pp = 57896044618658097711785492504343953926634992332820282019728792003956564819949 := rfl
  rcases sq_eq _ _ hx hn (h.trans (mulF_mod a a).symm) with e | e
  · exact .inl e
  · clear h
    generalize a % pp = n at *
    by_cases h0 : n = 0
    · left; subst h0
      rw [Nat.add_zero, Nat.mod_eq_of_lt hx] at e
      exact e
    · right
      rw [neg_val n (by omega) hn]
      obtain ⟨t, ht⟩ := Nat.dvd_of_mod_eq_zero e
      rcases t with _ | _ | t
      · omega
      · omega
      · have : pp * 2 ≤ pp * (t + 1 + 1) := Nat.mul_le_mul_left _ (by omega)
        omega
theorem on_turn {x y : K} (h : onK x y) : onK (-x) y := by
  unfold onK at *
  grind
theorem add_turn_x (x y : K) : addX x y (-x) y = 0 := by
  unfold addX
  rw [show x * y + y * -x = 0 by grind]
  grind
theorem add_turn_y {x y : K} (h : onK x y) : addY x y (-x) y = 1 := by
  have h2 := addY_mul h (on_turn h)
  apply k_cancel (complete_minus h (on_turn h))
  rw [h2]
  unfold onK at h
  grind
theorem rep_one (x y : K) : Rep x y 1 x y := ⟨k_one_ne, (Fin.mul_one x).symm, (Fin.mul_one y).symm⟩
def plX (X1 Y1 Z1 X2 Y2 Z2 : K) : K := Z1 * Z2 * (Z1 * Z2 * (Z1 * Z2) - dK * (X1 * X2 * (Y1 * Y2))) * ((X1 + Y1) * (X2 + Y2) - X1 * X2 - Y1 * Y2)
def plY (X1 Y1 Z1 X2 Y2 Z2 : K) : K := Z1 * Z2 * (Z1 * Z2 * (Z1 * Z2) + dK * (X1 * X2 * (Y1 * Y2))) * (X1 * X2 + Y1 * Y2)
def plZ (X1 Y1 Z1 X2 Y2 Z2 : K) : K := (Z1 * Z2 * (Z1 * Z2) - dK * (X1 * X2 * (Y1 * Y2))) * (Z1 * Z2 * (Z1 * Z2) + dK * (X1 * X2 * (Y1 * Y2)))
theorem pl_alg1 (d x1 y1 z1 x2 y2 z2 : K) : z1 * z2 * (z1 * z2) - d * (x1 * z1 * (x2 * z2) * (y1 * z1 * (y2 * z2))) = (z1 * z2) * (z1 * z2) * (1 - d * x1 * x2 * y1 * y2) := by grind
theorem pl_alg2 (d x1 y1 z1 x2 y2 z2 : K) : z1 * z2 * (z1 * z2) + d * (x1 * z1 * (x2 * z2) * (y1 * z1 * (y2 * z2))) = (z1 * z2) * (z1 * z2) * (1 + d * x1 * x2 * y1 * y2) := by grind
theorem rep_plus {X1 Y1 Z1 X2 Y2 Z2 x1 y1 x2 y2 : K} (h1 : Rep X1 Y1 Z1 x1 y1) (h2 : Rep X2 Y2 Z2 x2 y2) (o1 : onK x1 y1) (o2 : onK x2 y2) :
    Rep (plX X1 Y1 Z1 X2 Y2 Z2) (plY X1 Y1 Z1 X2 Y2 Z2) (plZ X1 Y1 Z1 X2 Y2 Z2) (addX x1 y1 x2 y2) (addY x1 y1 x2 y2) := by
  obtain ⟨z1, rfl, rfl⟩ := h1
  obtain ⟨z2, rfl, rfl⟩ := h2
  have hp := complete_plus o1 o2
  have hm := complete_minus o1 o2
  have hX := addX_mul o1 o2
  have hY := addY_mul o1 o2
  have hz := k_mul_ne z1 z2
  unfold plX plY plZ
  rw [pl_alg1, pl_alg2]
  have e1 : (x1 * Z1 + y1 * Z1) * (x2 * Z2 + y2 * Z2) - x1 * Z1 * (x2 * Z2) - y1 * Z1 * (y2 * Z2) = (x1 * y2 + y1 * x2) * (Z1 * Z2) := by grind
  have e2 : x1 * Z1 * (x2 * Z2) + y1 * Z1 * (y2 * Z2) = (y1 * y2 + x1 * x2) * (Z1 * Z2) := by grind
  rw [e1, e2, ← hX, ← hY]
  generalize addX x1 y1 x2 y2 = A at *
  generalize addY x1 y1 x2 y2 = B at *
  generalize dK * x1 * x2 * y1 * y2 = e at *
  generalize Z1 * Z2 = v at *
  clear hX hY e1 e2 o1 o2 z1 z2
  refine ⟨k_mul_ne (k_mul_ne (k_mul_ne hz hz) hm) (k_mul_ne (k_mul_ne hz hz) hp), ?_, ?_⟩
  · clear hp hm hz
    grind
  · clear hp hm hz
    grind
def plusD (d : Nat) (p q : Nat × Nat × Nat) : Nat × Nat × Nat :=
  let a := mulF p.2.2 q.2.2
  let b := mulF a a
  let c := mulF p.1 q.1
  let e := mulF p.2.1 q.2.1
  let f := mulF d (mulF c e)
  let g := subF b f
  let h := addF b f
  (mulF (mulF a g) (subF (subF (mulF (addF p.1 p.2.1) (addF q.1 q.2.1)) c) e), mulF (mulF a h) (addF c e), mulF g h)
def plusN (p q : Nat × Nat × Nat) : Nat × Nat × Nat := plusD dN p q
theorem repN_plus {p q : Nat × Nat × Nat} {x1 y1 x2 y2 : K} (h1 : RepN p x1 y1) (h2 : RepN q x2 y2) (o1 : onK x1 y1) (o2 : onK x2 y2) : RepN (plusN p q) (addX x1 y1 x2 y2) (addY x1 y1 x2 y2) := by
  have h := rep_plus h1 h2 o1 o2
  unfold plX plY plZ at h
  rw [show dK = toK dN from rfl] at h
  unfold RepN plusN plusD
  simp only [toK_mul, toK_add, toK_sub _ _ (pp_lt (mulF_lt _ _))]
  exact h
theorem repN_one (x y : Nat) : RepN (x, y, 1) (toK x) (toK y) := by
  show Rep (toK x) (toK y) (toK 1) (toK x) (toK y)
  rw [toK_one]
  exact rep_one _ _
theorem addN_on {p q : Nat × Nat} (hp : onN p) (hq : onN q) : onN (addN p q) := by
  refine onN_of (addN_lt p q) ?_
  rw [addN_x, addN_y]
  exact add_on hp.2.2 hq.2.2
theorem addN_comm (p q : Nat × Nat) : addN p q = addN q p := by
  refine pair_ext (addN_lt _ _) (addN_lt _ _) ?_ ?_
  · rw [addN_x, addN_x, addX_comm]
  · rw [addN_y, addN_y, addY_comm]
theorem addN_assoc {p q r : Nat × Nat} (hp : onN p) (hq : onN q) (hr : onN r) : addN (addN p q) r = addN p (addN q r) := by
  refine pair_ext (addN_lt _ _) (addN_lt _ _) ?_ ?_
  · rw [addN_x, addN_x, addN_x, addN_y, addN_x, addN_y]
    exact assoc_x hp.2.2 hq.2.2 hr.2.2
  · rw [addN_y, addN_y, addN_x, addN_y, addN_x, addN_y]
    exact assoc_y hp.2.2 hq.2.2 hr.2.2
theorem addN_none {p : Nat × Nat} (hp : onN p) : addN p (0, 1) = p := by
  refine pair_ext (addN_lt _ _) (onN_lt hp) ?_ ?_
  · rw [addN_x]
    show addX _ _ (toK 0) (toK 1) = _
    rw [toK_zero, toK_one, add_none_x]
  · rw [addN_y]
    show addY _ _ (toK 0) (toK 1) = _
    rw [toK_zero, toK_one, add_none_y]
def turnN (p : Nat × Nat) : Nat × Nat := (subF 0 p.1, p.2)
theorem toK_turn (a : Nat) (h : a < 115792089237316195423570985008687907853269984665640564039457584007913129639936) : toK (subF 0 a) = -toK a := by
  rw [toK_sub _ _ h, toK_zero]
  generalize toK a = x
  grind
theorem turnN_on {p : Nat × Nat} (hp : onN p) : onN (turnN p) := by
  refine onN_of ⟨subF_lt _ _, hp.2.1⟩ ?_
  show onK (toK (subF 0 p.1)) (toK p.2)
  rw [toK_turn _ (pp_lt hp.1)]
  exact on_turn hp.2.2
theorem addN_turn {p : Nat × Nat} (hp : onN p) : addN p (turnN p) = (0, 1) := by
  refine pair_ext (addN_lt _ _) (onN_lt noneN_on) ?_ ?_
  · rw [addN_x]
    show addX _ _ (toK (subF 0 p.1)) (toK p.2) = toK 0
    rw [toK_turn _ (pp_lt hp.1), add_turn_x, toK_zero]
  · rw [addN_y]
    show addY _ _ (toK (subF 0 p.1)) (toK p.2) = toK 1
    rw [toK_turn _ (pp_lt hp.1), add_turn_y hp.2.2, toK_one]
theorem addN_back {p q : Nat × Nat} (hp : onN p) (hq : onN q) : addN (addN p q) (turnN q) = p := by
  rw [addN_assoc hp hq (turnN_on hq), addN_turn hq, addN_none hp]
theorem repN_add {t u : Nat × Nat × Nat} {p q : Nat × Nat} (h1 : RepN t (toK p.1) (toK p.2)) (h2 : RepN u (toK q.1) (toK q.2)) (o1 : onN p) (o2 : onN q) : RepN (plusN t u) (toK (addN p q).1) (toK (addN p q).2) := by
  rw [addN_x, addN_y]
  exact repN_plus h1 h2 o1.2.2 o2.2.2
def fastN (p : Nat × Nat) (l : List Bool) : Nat × Nat × Nat := l.foldl (fun t b => if b then plusN (plusN t t) (p.1, p.2, 1) else plusN t t) (0, 1, 1)
theorem fastN_rep {p : Nat × Nat} (hp : onN p) (l : List Bool) : RepN (fastN p l) (toK (mulN (hvB l) p).1) (toK (mulN (hvB l) p).2) := by
  have key : ∀ (m : List Bool) (t : Nat × Nat × Nat) (n : Nat), RepN t (toK (mulN n p).1) (toK (mulN n p).2) →
      RepN (m.foldl (fun t b => if b then plusN (plusN t t) (p.1, p.2, 1) else plusN t t) t) (toK (mulN (m.foldl (fun n b => 2 * n + b.toNat) n) p).1) (toK (mulN (m.foldl (fun n b => 2 * n + b.toNat) n) p).2) := by
    intro m
    induction m with
    | nil => exact fun t n h => h
    | cons b m ih =>
      intro t n h
      rw [List.foldl_cons, List.foldl_cons]
      apply ih
      have h2 := repN_add h h (mulN_on hp n) (mulN_on hp n)
      rw [← mulN_double hp] at h2
      cases b with
      | false => exact h2
      | true =>
        have h3 := repN_add h2 (repN_one p.1 p.2) (mulN_on hp (2 * n)) hp
        rw [← mulN_succ hp] at h3
        exact h3
  refine key l (0, 1, 1) 0 ?_
  rw [mulN_zero]
  exact repN_one 0 1
theorem plusD_eq (p q : Nat × Nat × Nat) : plusD 37095705934669439343138083508754565189542113879843219016388785533085940283555 p q = plusN p q := by
  unfold plusN
  rw [dN_val]
def fastD (d : Nat) (p : Nat × Nat) (l : List Bool) : Nat × Nat × Nat := l.foldl (fun t b => if b then plusD d (plusD d t t) (p.1, p.2, 1) else plusD d t t) (0, 1, 1)
theorem fastD_eq (p : Nat × Nat) (l : List Bool) : fastD 37095705934669439343138083508754565189542113879843219016388785533085940283555 p l = fastN p l := by
  unfold fastD fastN
  simp only [plusD_eq]
def bitsN (v : Nat) : Nat → List Bool
  | 0 => []
  | n + 1 => bitsN (v / 2) n ++ [decide (v % 2 = 1)]
theorem hvB_bits : ∀ n v, v < 2 ^ n → hvB (bitsN v n) = v
  | 0, v, h => by
    have : v = 0 := by simpa using h
    subst this
    rfl
  | n + 1, v, h => by
    rw [bitsN, hvB_snoc, hvB_bits n (v / 2) (by rw [Nat.pow_succ] at h; omega)]
    rcases Nat.mod_two_eq_zero_or_one v with e | e
    · rw [e]; show 2 * (v / 2) + 0 = v; omega
    · rw [e]; show 2 * (v / 2) + 1 = v; omega
theorem rep_none {t : Nat × Nat × Nat} {p : Nat × Nat} (hp : p.1 < pp ∧ p.2 < pp) (h : RepN t (toK p.1) (toK p.2)) (h1 : t.1 = 0) (h2 : t.2.1 = t.2.2) : p = (0, 1) := by
  obtain ⟨hz, hx, hy⟩ := h
  refine pair_ext hp (onN_lt noneN_on) ?_ ?_
  · show toK p.1 = toK 0
    rw [h1] at hx
    rw [toK_zero] at hx ⊢
    exact (k_mul_zero hx.symm).resolve_right hz
  · show toK p.2 = toK 1
    rw [h2] at hy
    rw [toK_one]
    apply k_cancel hz
    rw [← hy, Fin.one_mul]
theorem rep_lit {t : Nat × Nat × Nat} {p q : Nat × Nat} (hp : p.1 < pp ∧ p.2 < pp) (hq : q.1 < pp ∧ q.2 < pp) (h : RepN t (toK p.1) (toK p.2)) (h1 : mulF q.1 t.2.2 = t.1 % pp) (h2 : mulF q.2 t.2.2 = t.2.1 % pp) : p = q := by
  obtain ⟨hz, hx, hy⟩ := h
  refine pair_ext hp hq ?_ ?_
  · have e := congrArg toK h1
    rw [toK_mul, toK_mod, hx] at e
    exact (k_cancel hz e).symm
  · have e := congrArg toK h2
    rw [toK_mul, toK_mod, hy] at e
    exact (k_cancel hz e).symm
theorem order_base : mulN 7237005577332262213973186563042994240857116359379907606001950938285454250989 baseN = (0, 1) := by
  have h := fastN_rep baseN_on (bitsN 7237005577332262213973186563042994240857116359379907606001950938285454250989 253)
  rw [hvB_bits 253 _ (by decide), ← fastD_eq] at h
  refine rep_none (mulN_lt _ _) h ?_ ?_
  · decide +kernel
  · decide +kernel
theorem fromU_lt (y : Nat) : fromU y < pp := mulF_lt _ _
theorem den_ne (y : K) : dK * (y * y) + 1 ≠ 0 := by
  intro h
  have h1 : ki * ki = dK * (y * y) := by rw [ki_sq]; grind
  have h2 := not_sq_times h1
  rw [h2, Fin.mul_zero, Fin.mul_zero, Fin.zero_add] at h
  exact k_one_ne h
theorem toK_fromU (y : Nat) : toK (fromU y) = (toK y * toK y - 1) * kinv (dK * (toK y * toK y) + 1) := by
  unfold fromU
  rw [toK_mul, toK_sub _ _ (by decide), toK_inv, toK_add, toK_mul, toK_mul, toK_mul, toK_one, show toK dN = dK from rfl]
theorem on_fromU (x y : Nat) : onK (toK x) (toK y) ↔ mulF x x = fromU y := by
  have hd := den_ne (toK y)
  have e : onK (toK x) (toK y) ↔ toK x * toK x * (dK * (toK y * toK y) + 1) = toK y * toK y - 1 := by
    unfold onK
    generalize toK x = a
    generalize toK y = b
    clear hd
    constructor <;> intro h <;> grind
  rw [e, ← k_div hd, ← toK_fromU, ← toK_mul]
  constructor
  · intro h
    exact toK_inj (mulF_lt _ _) (fromU_lt _) h
  · intro h
    rw [h]
theorem encP_mod {p : Nat × Nat} (h : p.2 < pp) : encP p % hb = p.2 := by
  have h1 := pp_hb
  unfold encP
  rw [Nat.add_mul_mod_self_left, Nat.mod_eq_of_lt (by omega)]
theorem encP_div {p : Nat × Nat} (h : p.2 < pp) : encP p / hb = p.1 % 2 := by
  have h1 := pp_hb
  unfold encP
  rw [Nat.add_mul_div_left _ _ (by decide), Nat.div_eq_of_lt (by omega), Nat.zero_add]
theorem sub_neg (x : Nat) (hx : x < pp) : subF 0 (subF 0 x) = x := by
  by_cases h : x = 0
  · subst h; rw [neg_zero, neg_zero]
  · rw [neg_val x (by omega) hx, neg_val (pp - x) (by omega) (by omega)]
    omega
theorem root_of (x : Nat) (hx : x < pp) : (rootF (mulF x x)).1 = if x % 2 = 0 then x else subF 0 x := by
  have h1 := pp_lit
  have hev := rootF_even (mulF x x)
  have hor := rootF_square_is x
  rw [Nat.mod_eq_of_lt hx] at hor
  generalize (rootF (mulF x x)).1 = r at *
  by_cases h0 : x = 0
  · subst h0
    rw [neg_zero] at hor
    rw [if_pos rfl]
    omega
  · have hn := neg_val x (by omega) hx
    rw [hn] at hor
    rw [hn]
    clear hn
    by_cases e : x % 2 = 0
    · rw [if_pos e]
      rcases hor with h | h
      · exact h
      · omega
    · rw [if_neg e]
      rcases hor with h | h
      · omega
      · exact h
theorem decQ_enc {x y : Nat} (hx : x < pp) (hy : y < pp) (hu : mulF x x = fromU y) : decQ y (x % 2) = ((x, y), true) := by
  have h1 := pp_lit
  have hr := root_of x hx
  have hsq := rootF_square x
  unfold decQ
  rw [← hu, hsq, hr]
  clear hsq hr hu
  rcases Nat.mod_two_eq_zero_or_one x with e | e
  · rw [e, if_pos (rfl : 0 = 0)]
    rw [if_pos ⟨hy, rfl, fun h => absurd h.1 (by decide)⟩, if_neg (by decide)]
  · have hx0 : 0 < x := by omega
    have hn : subF 0 x ≠ 0 := by rw [neg_val _ hx0 hx]; omega
    rw [e, if_neg (by decide : ¬ (1 = 0))]
    rw [if_pos ⟨hy, rfl, fun h => hn h.2⟩, if_pos rfl, sub_neg _ hx]
theorem decP_enc {p : Nat × Nat} (hp : onN p) : decP (encP p) = (p, true) := by
  have hu := (on_fromU p.1 p.2).1 hp.2.2
  rw [decP_eq, encP_mod hp.2.1, encP_div hp.2.1]
  exact decQ_enc hp.1 hp.2.1 hu
def ordN : Nat := 7237005577332262213973186563042994240857116359379907606001950938285454250989
theorem mulN_none : ∀ n, mulN n (0, 1) = (0, 1)
  | 0 => mulN_zero _
  | n + 1 => by rw [mulN_succ noneN_on, mulN_none n, addN_none noneN_on]
theorem mulN_mul {p : Nat × Nat} (hp : onN p) (m : Nat) : ∀ n, mulN (m * n) p = mulN n (mulN m p)
  | 0 => by rw [Nat.mul_zero, mulN_zero, mulN_zero]
  | n + 1 => by rw [Nat.mul_succ, mulN_add hp, mulN_mul hp m n, mulN_succ (mulN_on hp m)]
theorem mulN_order (n : Nat) : mulN (ordN * n) baseN = (0, 1) := by
  rw [mulN_mul baseN_on, show mulN ordN baseN = (0, 1) from order_base, mulN_none]
theorem addN_none_left {p : Nat × Nat} (hp : onN p) : addN (0, 1) p = p := by rw [addN_comm, addN_none hp]
theorem mulN_mod (n : Nat) : mulN (n % ordN) baseN = mulN n baseN := by
  have h := Nat.div_add_mod n ordN
  have h2 := mulN_add baseN_on (ordN * (n / ordN)) (n % ordN)
  rw [h, mulN_order, addN_none_left (mulN_on baseN_on _)] at h2
  exact h2.symm
theorem addN_cancel {p q r : Nat × Nat} (hp : onN p) (hq : onN q) (hr : onN r) (h : addN p r = addN q r) : p = q := by
  have h2 : addN (addN p r) (turnN r) = addN (addN q r) (turnN r) := by rw [h]
  rw [addN_back hp hr, addN_back hq hr] at h2
  exact h2
end Go.Proofs.YtdajmekliodmcaaGreatDoor.P8
namespace Go.Proofs.YtdajmekliodmcaaGreatDoor.S7
open Go.Proofs.YtdajmekliodmcaaGreatDoor.P8
open Go.RowKit Go.Shelf
set_option linter.unusedVariables false
set_option linter.unusedSimpArgs false
section
variable {P : Program} {ops : Array Oper} {Q : Exit → Act → World → Prop} {md : Region.Mode} {S : World → Prop} {f n : Nat} {listed : Array Bool} {a : Act} {w w2 : World} {rs : List Nat}
end
def Kt (w0 : World) (l : List (Nat × Array Value × TypeId)) (w : World) : Prop := Below w0.heap.size w0 w ∧ ∀ p ∈ l, w.heap[p.1]? = some (.cells p.2.1 p.2.2 (0, 0))
theorem Kt.get {w0 w : World} {l : List (Nat × Array Value × TypeId)} (h : Kt w0 l w) (g : Nat) (A : Array Value) (t : TypeId) (hm : (g, A, t) ∈ l) : w.heap[g]? = some (.cells A t (0, 0)) := h.2 (g, A, t) hm
theorem Kt.lt {w0 w : World} {l : List (Nat × Array Value × TypeId)} (h : Kt w0 l w) (g : Nat) (A : Array Value) (t : TypeId) (hm : (g, A, t) ∈ l) : g < w.heap.size := (Array.getElem?_eq_some_iff.1 (h.get g A t hm)).1
theorem Kt.below {w0 w w2 : World} {l : List (Nat × Array Value × TypeId)} (h : Kt w0 l w) (hb : Below w.heap.size w w2) : Kt w0 l w2 :=
  ⟨h.1.trans (hb.mono h.1.size), fun p hp => (hb.block p.1 (Array.getElem?_eq_some_iff.1 (h.2 p hp)).1).trans (h.2 p hp)⟩
theorem Kt.drew {w0 w : World} {l : List (Nat × Array Value × TypeId)} (h : Kt w0 l w) : Kt w0 l w.drew := ⟨h.1.drew, h.2⟩
theorem Kt.alloc {w0 w : World} {l : List (Nat × Array Value × TypeId)} (h : Kt w0 l w) (o : Obj) : Kt w0 l (w.alloc o) := h.below ((Below.refl _ w).alloc (Nat.le_refl _) o)
theorem Kt.new {w0 w : World} {l : List (Nat × Array Value × TypeId)} (h : Kt w0 l w) (A : Array Value) (t : TypeId) : Kt w0 ((w.heap.size, A, t) :: l) (w.alloc (.cells A t)) :=
  ⟨(h.alloc _).1, fun p hp => by
    rcases List.mem_cons.1 hp with rfl | hp
    · exact heap_alloc_new w _
    · exact (h.alloc _).2 p hp⟩
theorem Kt.nil (w : World) : Kt w [] w := ⟨Below.refl _ _, fun p hp => by cases hp⟩
theorem Kt.sub {w0 w : World} {l m : List (Nat × Array Value × TypeId)} (h : Kt w0 l w) (hs : ∀ p ∈ m, p ∈ l) : Kt w0 m w := ⟨h.1, fun p hp => h.2 p (hs p hp)⟩
theorem Kt.add {w0 w : World} {l : List (Nat × Array Value × TypeId)} (h : Kt w0 l w) (g : Nat) (A : Array Value) (t : TypeId) (hg : w.heap[g]? = some (.cells A t (0, 0))) : Kt w0 ((g, A, t) :: l) w :=
  ⟨h.1, fun p hp => by
    rcases List.mem_cons.1 hp with rfl | hp
    · exact hg
    · exact h.2 p hp⟩
theorem Kt.set {w0 w : World} {l m : List (Nat × Array Value × TypeId)} (h : Kt w0 l w) (g : Nat) (A B : Array Value) (t : TypeId) (hg : w.heap[g]? = some (.cells B t (0, 0))) (hw : w0.heap.size ≤ g) (hm : ∀ p ∈ m, p = (g, A, t) ∨ (p ∈ l ∧ p.1 ≠ g)) : Kt w0 m (w.setRow g A) :=
  ⟨h.1.trans ⟨rfl, rfl, rfl, by simp, fun k hk => setRow_other _ _ _ _ (by omega)⟩, fun p hp => by
    rcases hm p hp with rfl | ⟨h1, h2⟩
    · exact setRow_heap _ _ _ _ _ _ hg
    · exact (setRow_other _ _ _ _ h2).trans (h.2 p h1)⟩
theorem Kt.setw {w0 w : World} {l m : List (Nat × Array Value × TypeId)} (h : Kt w0 l w) (g : Nat) (t : TypeId) (kd : IntKind) (n : Nat) (f : Nat → Nat) (j v : Nat) (hg : Row w g t kd n f) (hw : w0.heap.size ≤ g) (hm : ∀ p ∈ m, p = (g, (rowOf kd n (upd f j v)).toArray, t) ∨ (p ∈ l ∧ p.1 ≠ g)) : Kt w0 m (w.setCell ⟨g, j, none⟩ (.int kd (v : Int))) :=
  ⟨h.1.setCell (p := ⟨g, j, none⟩) hw _, fun p hp => by
    rcases hm p hp with rfl | ⟨h1, h2⟩
    · exact hg.set j v
    · exact (heap_setCell_other _ _ _ _ h2).trans (h.2 p h1)⟩
theorem Kt.row {w0 w : World} {l : List (Nat × Array Value × TypeId)} (h : Kt w0 l w) (g : Nat) (t : TypeId) (kd : IntKind) (n : Nat) (f : Nat → Nat) (hm : (g, (rowOf kd n f).toArray, t) ∈ l) : Row w g t kd n f := h.2 _ hm
theorem Kt.cell {w0 w : World} {l : List (Nat × Array Value × TypeId)} (h : Kt w0 l w) (g : Nat) (A : Array Value) (t : TypeId) (hm : (g, A, t) ∈ l) (j : Nat) : w.cell? ⟨g, j, none⟩ = A[j]? := cell_of_row w g j A t (0, 0) (h.get g A t hm)
theorem Kt.free {w0 w : World} {l : List (Nat × Array Value × TypeId)} (h : Kt w0 l w) (g : Nat) (A : Array Value) (t : TypeId) (hm : (g, A, t) ∈ l) (j : Nat) : w.frozen? ⟨g, j, none⟩ = false := by
  unfold World.frozen?
  simp only [h.get g A t hm]
  simp
theorem Kt.ext {w0 w : World} {l m : List (Nat × Array Value × TypeId)} (h : Kt w0 l w) (g : Nat) (t : TypeId) (kd : IntKind) (n : Nat) (f f' : Nat → Nat) (hf : ∀ j, j < n → f j = f' j) (hm : ∀ p ∈ m, p ∈ l ∨ (p = (g, (rowOf kd n f').toArray, t) ∧ (g, (rowOf kd n f).toArray, t) ∈ l)) : Kt w0 m w :=
  ⟨h.1, fun p hp => by
    rcases hm p hp with h1 | ⟨rfl, h2⟩
    · exact h.2 p h1
    · rw [show (rowOf kd n f').toArray = (rowOf kd n f).toArray by rw [rowOf_ext hf]]
      exact h.2 _ h2⟩
end Go.Proofs.YtdajmekliodmcaaGreatDoor.S7
namespace Go.Proofs.YtdajmekliodmcaaGreatDoor.S7
open Go.Proofs.YtdajmekliodmcaaGreatDoor.P8
open Go.RowKit Go.Shelf
set_option linter.unusedVariables false
set_option linter.unusedSimpArgs false
def fromL (l : List UInt8) : Nat × Bool := if l.length = 32 ∧ leVal l < LL then (leVal l, true) else (0, false)
theorem reduceL_lt (l : List UInt8) : reduceL l < LL := Nat.mod_lt _ LL_pos
theorem from_iff (l : List UInt8) : bytesN (reduceL l) = l ↔ l.length = 32 ∧ leVal l < LL := by
  constructor
  · intro h
    have h1 : l.length = 32 := by rw [← h, bytesN_length]
    have h2 : leVal l = reduceL l := by
      have e := congrArg leVal h
      rw [leVal_bytesN _ (LL_lt (reduceL_lt l))] at e
      exact e.symm
    exact ⟨h1, by rw [h2]; exact reduceL_lt l⟩
  · rintro ⟨h1, h2⟩
    have h3 : reduceL l = leVal l := by
      unfold reduceL
      rw [List.take_of_length_le (by omega), Nat.mod_eq_of_lt h2]
    rw [h3]
    exact leVal_inj _ _ (by rw [bytesN_length, h1]) (leVal_bytesN _ (LL_lt h2))
theorem fromL_yes (l : List UInt8) (h : bytesN (reduceL l) = l) : fromL l = (reduceL l, true) := by
  have h2 := (from_iff l).1 h
  unfold fromL
  rw [if_pos h2]
  have e := congrArg leVal h
  rw [leVal_bytesN _ (LL_lt (reduceL_lt l))] at e
  rw [e]
theorem fromL_no (l : List UInt8) (h : ¬ bytesN (reduceL l) = l) : fromL l = (0, false) := by
  unfold fromL
  rw [if_neg (fun h2 => h ((from_iff l).2 h2))]
set_option maxRecDepth 100000 in
set_option maxHeartbeats 1000000 in
theorem from_any (s : ByteArray) (hs : s.size ≤ 9223372036854775807) (w : World) (hG0 : Glob w) :
    Calls Tryz.prog 45 #[.string s] w fun e w' => e = .returned (.tuple #[.agg (num (fromL s.data.toList).1), .bool (fromL s.data.toList).2]) ∧ Below w.heap.size w w' := by
  have H1 := Lib.hid (reduce_any s hs w)
  have H1 : Hid (∀ w, Glob w → _) := Lib.hid (fun w hw => reduce_any s hs w hw)
  have H2 := Lib.hid (raw_any (reduceL s.data.toList))
  obtain ⟨A, hA⟩ : ∃ A, Hid (A = num (reduceL s.data.toList)) := ⟨_, Lib.hid rfl⟩
  have IA : IsNum A := by rw [hA.out]; exact isNum _
  obtain ⟨V, hV⟩ : ∃ V : ByteArray, Hid (V = ⟨(bytesN (reduceL s.data.toList)).toArray⟩) := ⟨_, Lib.hid rfl⟩
  rw [← hA.out] at H1 H2
  rw [← hV.out] at H2
  have HZ := zero_run
  obtain ⟨Z, hZ⟩ : ∃ Z, Hid (Z = num 0) := ⟨_, Lib.hid rfl⟩
  have IZ : IsNum Z := by rw [hZ.out]; exact isNum _
  have IZ2 := IZ.size
  have HZ2 : ∀ w, (zeroValue 36).run Tryz.prog w = .ok (.agg Z) w := by rw [hZ.out]; exact HZ
  clear HZ
  have hz4 : ∀ W : World, Kn W [(W.heap.size, Z)] (W.alloc (.cells Z 36)) := by
    intro W
    have h := (Kn.nil W).new Z
    try simp only [World.size_alloc] at h
    exact h.sub (fun p hp => by simp at hp ⊢; simp [hp])
  have HS := Lib.hid (hz4 w)
  have HG := Lib.hid hG0
  clear hG0 hz4
  go_enter Tryz.func45, Tryz.ntmps45
  go_upto_region 1 with ((refine wpList_run rfl _ (exec_alloc_agg _ 36 rfl _ (HZ2 _)) ?_); try simp only [World.size_alloc])
  try simp only [Act.put, sT, sS, sZ]
  generalize w.alloc (.cells Z 36) = W0 at *
  go_wp2_with fail
  refine (H1.out _ (HG.out.kn HS.out)).mono ?_
  rintro e w2 ⟨rfl, hb⟩
  have HS2 := Lib.hid (HS.out.below hb)
  clear hb HS H1
  have HS3 : Hid (Kn w [(w.heap.size, Z), (w2.heap.size, A)] (w2.alloc (.cells A 36))) := Lib.hid ((HS2.out.new A).sub (fun p hp => by simp at hp ⊢; rcases hp with rfl | rfl <;> simp))
  have hlt := HS2.out.lt (w.heap.size) Z (by simp)
  go_upto_region 2 with (first | ((refine wpList_run rfl _ (exec_alloc_agg _ 36 rfl _ (HZ2 _)) ?_); try simp only [World.size_alloc]) | (refine wpList_run0 rfl (exec_new24 _ (.tmp 4) (.tmp 6) rfl _ _ rfl A IA rfl IZ2) ?_))
  try simp only [Act.put, sT, sS, sZ]
  clear HS2
  generalize w2.alloc (.cells A 36) = W3 at *
  generalize w2.heap.size = g at *
  have hl3 := HS3.out.load g A (by simp) IA
  go_wp2_with (refine wpList_run rfl _ (exec_load_of _ 36 (.tmp 4) rfl ⟨g, 0, none⟩ rfl (.agg A) hl3) ?_)
  clear hl3
  refine (H2.out _).mono ?_
  rintro e w4 ⟨rfl, hb⟩
  have HS4 := Lib.hid (HS3.out.below hb)
  clear hb HS3 H2
  have hg4 := HS4.out.get (w.heap.size) Z (by simp)
  by_cases he : bytesN (reduceL s.data.toList) = s.data.toList
  · have hdn : (V.toList == s.toList) = true := by
      rw [hV.out, ByteArray.toList_eq, ByteArray.toList_eq, List.toList_toArray, he]; simp
    have hR := Lib.hid (fromL_yes _ he)
    clear he hV
    have hl4 := HS4.out.load g A (by simp) IA
    go_wp2_with (first | (refine wpList_run rfl _ (exec_load_of _ 36 (.tmp 4) rfl ⟨g, 0, none⟩ rfl (.agg A) hl4) ?_) | (refine wpList_run0 rfl (exec_store24 _ (.tmp 2) (.tmp 12) rfl (w.heap.size) rfl A IA rfl Z 36 hg4 IZ2) ?_))
    have HSZ : Kn w [(w.heap.size, A)] (w4.setRow (w.heap.size) A) := HS4.out.set (w.heap.size) A Z hg4 (by omega) (fun p hp => by simp at hp; subst hp; simp)
    exact bodyPost_ret (results_two rfl _ _ _ ⟨w.heap.size, 0, none⟩ rfl _ (HSZ.load (w.heap.size) A (by simp) IA)) rfl ⟨by rw [hR.out, hA.out]; rfl, HSZ.1⟩
  · have hdn : (V.toList == s.toList) = false := by
      simp only [beq_eq_false_iff_ne, ne_eq]
      intro h
      rw [hV.out, ByteArray.toList_eq, ByteArray.toList_eq, List.toList_toArray] at h
      exact he h
    have hR := Lib.hid (fromL_no _ he)
    clear he hV
    have hb0 : ∀ w : World, (Instr.build 36 #[]).run Tryz.prog w = .ok (.agg Z) w := by rw [hZ.out]; exact build0_run
    go_wp2_with (first | (refine wpList_run rfl _ (exec_build0g rfl (.agg Z) (hb0 _) _) ?_) | (refine wpList_run0 rfl (exec_store24 _ (.tmp 2) (.tmp 11) rfl (w.heap.size) rfl Z IZ rfl Z 36 hg4 IZ2) ?_))
    have HSZ : Kn w [(w.heap.size, Z)] (w4.setRow (w.heap.size) Z) := HS4.out.set (w.heap.size) Z Z hg4 (by omega) (fun p hp => by simp at hp; subst hp; simp)
    exact bodyPost_ret (results_two rfl _ _ _ ⟨w.heap.size, 0, none⟩ rfl _ (HSZ.load (w.heap.size) Z (by simp) IZ)) rfl ⟨by rw [hR.out, hZ.out]; rfl, HSZ.1⟩
end Go.Proofs.YtdajmekliodmcaaGreatDoor.S7
namespace Go.Proofs.YtdajmekliodmcaaGreatDoor.P8
set_option linter.unusedSimpArgs false
open Go.ChangeShapes Go.WideShapes Go.RowKit
set_option linter.unusedVariables false
theorem arr_of_trod {H : Type} {enc : TypeId × Value → H} {P : Program} {w : World} {base : Nat} {sp : Nat → Bool} {held : Bool} {fuel n : Nat} {t e : TypeId} {kd : IntKind} {cs : List Value} {p : List MemPlace}
    (ht : P.underlying t = some (.array n e)) (he : P.underlying e = some (.int kd)) (hce : P.cellsOf e = 1) (hct : P.cellsOf t = n) (ns : List Int)
    (hd : DataW.trod enc P w base sp held fuel t cs = some (.agg (ns.map fun k => .lit (.int kd k)), p)) : cs = ns.map (Value.int kd) := by
  obtain ⟨xs, m, rfl, hx, hlen, hn, hel⟩ := DataW.trod_array ht hd
  simp only [Prod.mk.injEq, DataW.agg.injEq] at hx
  have hx1 := hx.1
  have hnl : ns.length = n := by
    have := congrArg List.length hx1
    simp at this
    omega
  apply List.ext_getElem?
  intro i
  by_cases hi : i < n
  · have h1 := hel i hi
    rw [hce, Nat.mul_one] at h1
    rw [List.getElem?_eq_getElem (by omega : i < xs.length)] at h1
    obtain ⟨k, e1, e2, _⟩ := DataW.trod_int he h1
    have hk : ns[i]? = some k := by
      have := congrArg (fun l => l[i]?) hx1
      simp only [List.getElem?_map, List.getElem?_eq_getElem (by omega : i < xs.length), List.getElem?_eq_getElem (by omega : i < ns.length), Option.map_some] at this
      rw [e2] at this
      rw [List.getElem?_eq_getElem (by omega : i < ns.length)]
      simp at this
      rw [this]
    rw [List.getElem?_map, hk]
    have h2 := congrArg (fun l => l[0]?) e1
    simp only [List.getElem?_take, List.getElem?_drop] at h2
    simpa using h2
  · rw [List.getElem?_eq_none (by omega), List.getElem?_eq_none (by simp; omega)]
def turnI : List Int := [14190309331451158704, 3405592160176694392, 3120150775007532967, 3135389899092516619]
theorem turn_num : (turnI.map (Value.int .u64)).toArray = num tn := by
  rw [num_lit, show dig tn 0 = 14190309331451158704 by decide +kernel, show dig tn 1 = 3405592160176694392 by decide +kernel, show dig tn 2 = 3120150775007532967 by decide +kernel, show dig tn 3 = 3135389899092516619 by decide +kernel]
  rfl
def ddI : List Int := [8496970652267935907, 31536524315187371, 10144147576115030168, 5909686906226998899]
theorem dd_num : (ddI.map (Value.int .u64)).toArray = num dN := by
  rw [num_lit, show dig dN 0 = 8496970652267935907 by rw [dN_val]; decide +kernel, show dig dN 1 = 31536524315187371 by rw [dN_val]; decide +kernel, show dig dN 2 = 10144147576115030168 by rw [dN_val]; decide +kernel, show dig dN 3 = 5909686906226998899 by rw [dN_val]; decide +kernel]
  rfl
def bxI : List Int := [14507833142362363162, 7578651490590762930, 13881468655802702940, 2407515759118799870]
theorem bx_num : (bxI.map (Value.int .u64)).toArray = num baseN.1 := by
  rw [num_lit, show dig baseN.1 0 = 14507833142362363162 by decide +kernel, show dig baseN.1 1 = 7578651490590762930 by decide +kernel, show dig baseN.1 2 = 13881468655802702940 by decide +kernel, show dig baseN.1 3 = 2407515759118799870 by decide +kernel]
  rfl
def byI : List Int := [7378697629483820632, 7378697629483820646, 7378697629483820646, 7378697629483820646]
theorem by_num : (byI.map (Value.int .u64)).toArray = num baseN.2 := by
  rw [num_lit, show dig baseN.2 0 = 7378697629483820632 by decide +kernel, show dig baseN.2 1 = 7378697629483820646 by decide +kernel, show dig baseN.2 2 = 7378697629483820646 by decide +kernel, show dig baseN.2 3 = 7378697629483820646 by decide +kernel]
  rfl
theorem turn_data {H : Type} : (Rows.laid_shelfmark_field_turn : DataW H) = .agg (turnI.map fun k => .lit (.int .u64 k)) := rfl
theorem d_data {H : Type} : (Rows.laid_shelfmark_point_d : DataW H) = .agg (ddI.map fun k => .lit (.int .u64 k)) := rfl
theorem base_data {H : Type} : (Rows.laid_shelfmark_point_base : DataW H) = .agg [.agg (bxI.map fun k => .lit (.int .u64 k)), .agg (byI.map fun k => .lit (.int .u64 k))] := rfl
theorem row_of_var {W : World} {P : Program} {n : String} {g : Nat} {cs : Array Value} (hg : P.globalNamed n = some g) (hv : W.var? P n = some cs) (hfr : ∃ c t, W.heap[g]? = some (.cells c t (0, 0))) : ∃ t, W.heap[g]? = some (.cells cs t (0, 0)) := by
  obtain ⟨c, t, h⟩ := hfr
  simp only [World.var?, hg, Option.bind_some, h, Option.some.injEq] at hv
  subst hv
  exact ⟨t, h⟩
theorem mem_row (g n : Nat) (hn : 0 < n) : MemPlace.cell g 0 ∈ MemPlace.row ⟨g, 0, none⟩ n := by
  unfold MemPlace.row
  exact List.mem_map.2 ⟨0, List.mem_range.2 hn, rfl⟩
theorem base_of_trod {H : Type} {enc : TypeId × Value → H} {w : World} {base : Nat} {sp : Nat → Bool} {held : Bool} {fuel : Nat} {cs : List Value} {p : List MemPlace}
    (hd : DataW.trod enc Tryz.prog w base sp held fuel 60 cs = some (.agg [.agg (bxI.map fun k => .lit (.int .u64 k)), .agg (byI.map fun k => .lit (.int .u64 k))], p)) : cs = bxI.map (Value.int .u64) ++ byI.map (Value.int .u64) := by
  obtain ⟨xs, n, rfl, hx, hlen, hn, hel⟩ := DataW.trod_struct Tryz.underlying60 hd
  simp only [Prod.mk.injEq, DataW.agg.injEq] at hx
  have hx1 := hx.1
  have h0 := hel 0 _ rfl
  have h1 := hel 1 _ rfl
  rw [show Tryz.prog.cellsOf 60 = 8 by kernel_rfl] at hlen
  match xs, hx1 with
  | [(d0, p0), (d1, p1)], hx1 =>
    simp only [List.map_cons, List.map_nil, List.cons.injEq, and_true] at hx1
    obtain ⟨e0, e1⟩ := hx1
    have e4 : Tryz.prog.cellsOf 36 = 4 := by kernel_rfl
    have h0' : DataW.trod enc Tryz.prog w base sp held n 36 (cs.take (Tryz.prog.cellsOf 36)) = some (d0, p0) := h0
    have h1' : DataW.trod enc Tryz.prog w base sp held n 36 ((cs.drop 4).take (Tryz.prog.cellsOf 36)) = some (d1, p1) := h1
    rw [e4] at h0' h1'
    rw [← e0] at h0'
    rw [← e1] at h1'
    have c0 := arr_of_trod Tryz.underlying36 Tryz.underlying34 (by kernel_rfl) (by kernel_rfl) _ h0'
    have c1 := arr_of_trod Tryz.underlying36 Tryz.underlying34 (by kernel_rfl) (by kernel_rfl) _ h1'
    rw [List.take_of_length_le (by rw [List.length_drop]; omega)] at c1
    rw [← c0, ← c1, List.take_append_drop]
theorem base_cells : (bxI.map (Value.int .u64) ++ byI.map (Value.int .u64)).toArray = num baseN.1 ++ num baseN.2 := by rw [← bx_num, ← by_num]; rfl
def orderI : List Int := [6346243789798364141, 1503914060200516822, 0, 1152921504606846976]
theorem order_data {H : Type} : (Rows.laid_shelfmark_scalar_order : DataW H) = .agg (orderI.map fun k => .lit (.int .u64 k)) := rfl
theorem order_num : (orderI.map (Value.int .u64)).toArray = num S7.LL := by
  rw [num_lit, show dig S7.LL 0 = 6346243789798364141 by decide, show dig S7.LL 1 = 1503914060200516822 by decide, show dig S7.LL 2 = 0 by decide, show dig S7.LL 3 = 1152921504606846976 by decide]
  rfl
theorem gTurn : Tryz.prog.globalNamed "shelfmark/field.turn" = some 3 := by kernel_rfl
theorem tTurn : (Tryz.prog.globals[3]?).map (·.type) = some 36 := by kernel_rfl
theorem gD : Tryz.prog.globalNamed "shelfmark/point.d" = some 2 := by kernel_rfl
theorem tD : (Tryz.prog.globals[2]?).map (·.type) = some 36 := by kernel_rfl
theorem gBase : Tryz.prog.globalNamed "shelfmark/point.base" = some 0 := by kernel_rfl
theorem tBase : (Tryz.prog.globals[0]?).map (·.type) = some 60 := by kernel_rfl
theorem gOrd : Tryz.prog.globalNamed "shelfmark/scalar.order" = some 1 := by kernel_rfl
theorem tOrd : (Tryz.prog.globals[1]?).map (·.type) = some 36 := by kernel_rfl
def laid9 : List (String × DataW Unit) := Rows.sigTwiceRow.laid
def Glob9 (w : World) : Prop := GlobT w ∧ Glob w ∧ S7.Glob w
theorem Glob9.below {w w' : World} (h : Glob9 w) (hb : Below w.heap.size w w') : Glob9 w' := ⟨h.1.below hb, h.2.1.below hb, h.2.2.below hb⟩
theorem glob_of_laid9 {W : World} (h : laidMetH Tryz.prog laid9 W) : Glob9 W := by
  rw [MakeChecks.laidMetH_plain _ _ _ (by kernel_rfl)] at h
  obtain ⟨ps, ⟨ga, ta, csa, fa, pa, qa, hga, hta, hva, hda, ⟨g2, t2, cs2, f2, p2, q2, hg2, ht2, hv2, hd2, ⟨g0, t0, cs0, f0, p0, q0, hg0, ht0, hv0, hd0, ⟨g1, t1, cs1, f1, p1, q1, hg1, ht1, hv1, hd1, ⟨g3, t3, cs3, f3, p3, q3, hg3, ht3, hv3, hd3, hq, e3⟩, e1⟩, e0⟩, e2⟩, ea⟩, _, hfr⟩ := h
  obtain rfl := Option.some.inj (gTurn.symm.trans hg2)
  obtain rfl := Option.some.inj (tTurn.symm.trans ht2)
  rw [turn_data] at hd2
  have c2 := arr_of_trod Tryz.underlying36 Tryz.underlying34 (by kernel_rfl) (by kernel_rfl) _ hd2
  obtain ⟨l2⟩ := cs2
  simp only at c2
  subst c2
  obtain rfl := Option.some.inj (gD.symm.trans hg0)
  obtain rfl := Option.some.inj (tD.symm.trans ht0)
  rw [d_data] at hd0
  have c0 := arr_of_trod Tryz.underlying36 Tryz.underlying34 (by kernel_rfl) (by kernel_rfl) _ hd0
  obtain ⟨l0⟩ := cs0
  simp only at c0
  subst c0
  obtain rfl := Option.some.inj (gBase.symm.trans hg1)
  obtain rfl := Option.some.inj (tBase.symm.trans ht1)
  rw [base_data] at hd1
  have c1 := base_of_trod hd1
  obtain ⟨l1⟩ := cs1
  simp only at c1
  subst c1
  obtain rfl := Option.some.inj (gOrd.symm.trans hg3)
  obtain rfl := Option.some.inj (tOrd.symm.trans ht3)
  rw [order_data] at hd3
  have c3 := arr_of_trod Tryz.underlying36 Tryz.underlying34 (by kernel_rfl) (by kernel_rfl) _ hd3
  obtain ⟨l3⟩ := cs3
  simp only at c3
  subst c3
  have m2 : MemPlace.cell 3 0 ∈ ps := by
    rw [ea, e2]
    exact List.mem_append_right _ (List.mem_append_left _ (List.mem_append_left _ (mem_row 3 _ (by decide))))
  have m0 : MemPlace.cell 2 0 ∈ ps := by
    rw [ea, e2, e0]
    exact List.mem_append_right _ (List.mem_append_right _ (List.mem_append_left _ (List.mem_append_left _ (mem_row 2 _ (by decide)))))
  have m1 : MemPlace.cell 0 0 ∈ ps := by
    rw [ea, e2, e0, e1]
    exact List.mem_append_right _ (List.mem_append_right _ (List.mem_append_right _ (List.mem_append_left _ (List.mem_append_left _ (mem_row 0 _ (by decide))))))
  have m3 : MemPlace.cell 1 0 ∈ ps := by
    rw [ea, e2, e0, e1, e3]
    exact List.mem_append_right _ (List.mem_append_right _ (List.mem_append_right _ (List.mem_append_right _ (List.mem_append_left _ (List.mem_append_left _ (mem_row 1 _ (by decide)))))))
  obtain ⟨u, hu⟩ := row_of_var gD hv0 (hfr 2 0 m0).1
  obtain ⟨u2, hu2⟩ := row_of_var gBase hv1 (hfr 0 0 m1).1
  obtain ⟨u3, hu3⟩ := row_of_var gTurn hv2 (hfr 3 0 m2).1
  obtain ⟨u4, hu4⟩ := row_of_var gOrd hv3 (hfr 1 0 m3).1
  refine ⟨⟨u3, by rw [← turn_num]; exact hu3⟩, ⟨⟨u, by rw [← dd_num]; exact hu⟩, u2, by rw [← base_cells]; exact hu2⟩, u4, ?_⟩
  have h5 : (orderI.map (Value.int .u64)).toArray = num S7.LL := order_num
  rw [← h5]
  exact hu4
end Go.Proofs.YtdajmekliodmcaaGreatDoor.P8
