/- Several texts, one behind the other; each says by itself what it proves, and on what conditions. -/
import Derived.Test.YtdajmekliodmcaaGreatDoorK17
namespace Go.Proofs.YtdajmekliodmcaaGreatDoor.P8
set_option linter.unusedSimpArgs false
set_option linter.unusedVariables false
abbrev Rat4 := Nat × Nat × Nat × Nat
def overR (p : Nat × Nat) : Rat4 := (p.1, p.2, 1, mulF p.1 p.2)
def sumR (p q : Rat4) : Rat4 :=
  (mulF (addF (mulF p.1 q.2.1) (mulF p.2.1 q.1)) (subF (mulF p.2.2.1 q.2.2.1) (mulF dN (mulF p.2.2.2 q.2.2.2))),
   mulF (addF (mulF p.2.1 q.2.1) (mulF p.1 q.1)) (addF (mulF p.2.2.1 q.2.2.1) (mulF dN (mulF p.2.2.2 q.2.2.2))),
   mulF (addF (mulF p.2.2.1 q.2.2.1) (mulF dN (mulF p.2.2.2 q.2.2.2))) (subF (mulF p.2.2.1 q.2.2.1) (mulF dN (mulF p.2.2.2 q.2.2.2))),
   mulF (addF (mulF p.1 q.2.1) (mulF p.2.1 q.1)) (addF (mulF p.2.1 q.2.1) (mulF p.1 q.1)))
def plainR (r : Rat4) : Nat × Nat := (mulF r.1 (invF r.2.2.1), mulF r.2.1 (invF r.2.2.1))
def RepR (r : Rat4) (x y : K) : Prop := RepX (toK r.1) (toK r.2.1) (toK r.2.2.1) (toK r.2.2.2) x y
theorem repR_over (p : Nat × Nat) : RepR (overR p) (toK p.1) (toK p.2) := by
  unfold RepR overR
  simp only [toK_mul]
  have h1 : toK 1 = 1 := rfl
  rw [h1]
  exact repX_one _ _
theorem rx_x (x1 y1 z1 x2 y2 z2 : K) : x1 * z1 * (y2 * z2) + y1 * z1 * (x2 * z2) = (x1 * y2 + y1 * x2) * (z1 * z2) := by grind
theorem rx_y (x1 y1 z1 x2 y2 z2 : K) : y1 * z1 * (y2 * z2) + x1 * z1 * (x2 * z2) = (y1 * y2 + x1 * x2) * (z1 * z2) := by grind
theorem rx_f (d x1 y1 z1 x2 y2 z2 : K) : z1 * z2 - d * (x1 * y1 * z1 * (x2 * y2 * z2)) = (1 - d * x1 * x2 * y1 * y2) * (z1 * z2) := by grind
theorem rx_g (d x1 y1 z1 x2 y2 z2 : K) : z1 * z2 + d * (x1 * y1 * z1 * (x2 * y2 * z2)) = (1 + d * x1 * x2 * y1 * y2) * (z1 * z2) := by grind
theorem repX_sum {X1 Y1 Z1 T1 X2 Y2 Z2 T2 x1 y1 x2 y2 : K} (h1 : RepX X1 Y1 Z1 T1 x1 y1) (h2 : RepX X2 Y2 Z2 T2 x2 y2) (o1 : onK x1 y1) (o2 : onK x2 y2) :
    RepX ((X1 * Y2 + Y1 * X2) * (Z1 * Z2 - dK * (T1 * T2))) ((Y1 * Y2 + X1 * X2) * (Z1 * Z2 + dK * (T1 * T2))) ((Z1 * Z2 + dK * (T1 * T2)) * (Z1 * Z2 - dK * (T1 * T2))) ((X1 * Y2 + Y1 * X2) * (Y1 * Y2 + X1 * X2)) (addX x1 y1 x2 y2) (addY x1 y1 x2 y2) := by
  obtain ⟨z1, rfl, rfl, rfl⟩ := h1
  obtain ⟨z2, rfl, rfl, rfl⟩ := h2
  rw [rx_x, rx_y, rx_f, rx_g]
  rw [← addX_mul o1 o2, ← addY_mul o1 o2]
  have h := ext_close (x3 := addX x1 y1 x2 y2) (y3 := addY x1 y1 x2 y2) (k_mul_ne z1 z2) (complete_plus o1 o2) (complete_minus o1 o2) rfl rfl rfl rfl
  obtain ⟨a, b, c, d⟩ := h
  refine ⟨?_, b.trans ?_, ?_, d.trans ?_⟩
  · rw [Fin.mul_comm]; exact a
  · rw [Fin.mul_comm ((1 + dK * x1 * x2 * y1 * y2) * (Z1 * Z2))]
  · rw [Fin.mul_comm, c, Fin.mul_comm ((1 + dK * x1 * x2 * y1 * y2) * (Z1 * Z2))]
  · rw [Fin.mul_comm ((1 + dK * x1 * x2 * y1 * y2) * (Z1 * Z2))]
theorem repR_sum {p q : Rat4} {x1 y1 x2 y2 : K} (h1 : RepR p x1 y1) (h2 : RepR q x2 y2) (o1 : onK x1 y1) (o2 : onK x2 y2) : RepR (sumR p q) (addX x1 y1 x2 y2) (addY x1 y1 x2 y2) := by
  unfold RepR sumR
  simp only [toK_mul, toK_add, toK_subM]
  exact repX_sum h1 h2 o1 o2
theorem plainR_rep {r : Rat4} {p : Nat × Nat} (hp : p.1 < pp ∧ p.2 < pp) (h : RepR r (toK p.1) (toK p.2)) : plainR r = p := by
  have h2 : RepN (r.1, r.2.1, r.2.2.1) (toK p.1) (toK p.2) := repX_rep h
  exact flatN_rep hp h2
theorem add_plain {p q : Nat × Nat} (hp : onN p) (hq : onN q) : plainR (sumR (overR p) (overR q)) = addN p q := by
  refine plainR_rep (addN_lt p q) ?_
  rw [addN_x, addN_y]
  exact repR_sum (repR_over p) (repR_over q) hp.2.2 hq.2.2
def fastR (p : Nat × Nat) (l : List Bool) : Rat4 := l.foldl (fun t b => if b then sumR (sumR t t) (overR p) else sumR t t) (overR (0, 1))
theorem fastR_snoc (p : Nat × Nat) (l : List Bool) (b : Bool) : fastR p (l ++ [b]) = if b then sumR (sumR (fastR p l) (fastR p l)) (overR p) else sumR (fastR p l) (fastR p l) := by simp [fastR]
theorem fastR_rep {p : Nat × Nat} (hp : onN p) (l : List Bool) : RepR (fastR p l) (toK (mulN (hvB l) p).1) (toK (mulN (hvB l) p).2) := by
  obtain ⟨m, hm⟩ : ∃ m, m = l.reverse := ⟨_, rfl⟩
  have hl : l = m.reverse := by rw [hm, List.reverse_reverse]
  subst hl
  clear hm
  induction m with
  | nil =>
    rw [show hvB ([] : List Bool).reverse = 0 from rfl, mulN_zero]
    exact repR_over (0, 1)
  | cons b m ih =>
    rw [List.reverse_cons, fastR_snoc, hvB_snoc]
    have o := mulN_on hp (hvB m.reverse)
    have h2 : RepR (sumR (fastR p m.reverse) (fastR p m.reverse)) (toK (mulN (2 * hvB m.reverse) p).1) (toK (mulN (2 * hvB m.reverse) p).2) := by
      rw [mulN_double hp, addN_x, addN_y]
      exact repR_sum ih ih o.2.2 o.2.2
    cases b with
    | false => exact h2
    | true =>
      rw [if_pos rfl, show (true : Bool).toNat = 1 from rfl, mulN_succ hp, addN_x, addN_y]
      exact repR_sum h2 (repR_over p) (mulN_on hp (2 * hvB m.reverse)).2.2 hp.2.2
theorem mul_plain {p : Nat × Nat} (hp : onN p) (l : List Bool) : plainR (fastR p l) = mulN (hvB l) p := plainR_rep (mulN_lt _ p) (fastR_rep hp l)
open Go.RowKit
def bitB (n k : Nat) : Bool := decide (0 < n / 2 ^ k % 2)
def bitsTo (n m : Nat) : List Bool := (List.range m).map fun j => bitB n (255 - j)
theorem bitsTo_length (n m : Nat) : (bitsTo n m).length = m := by simp [bitsTo]
theorem bitsTo_succ (n m : Nat) : bitsTo n (m + 1) = bitsTo n m ++ [bitB n (255 - m)] := by simp [bitsTo, List.range_succ]
theorem bitB_nat (n k : Nat) : (bitB n k).toNat = n / 2 ^ k % 2 := by
  unfold bitB
  rcases Nat.mod_two_eq_zero_or_one (n / 2 ^ k) with h | h <;> rw [h] <;> rfl
theorem half_up (n k : Nat) : 2 * (n / 2 ^ (k + 1)) + n / 2 ^ k % 2 = n / 2 ^ k := by
  rw [Nat.pow_succ, ← Nat.div_div_eq_div_mul]
  omega
theorem hvB_to (n : Nat) (h0 : n / 2 ^ 256 = 0) : ∀ m, m ≤ 256 → hvB (bitsTo n m) = n / 2 ^ (256 - m)
  | 0, _ => by rw [Nat.sub_zero, h0]; rfl
  | m + 1, hm => by
    rw [bitsTo_succ, hvB_snoc, hvB_to n h0 m (by omega), bitB_nat]
    have h := half_up n (255 - m)
    rw [show 255 - m + 1 = 256 - m by omega] at h
    rw [h, show 255 - m = 256 - (m + 1) by omega]
theorem hvB_all (n : Nat) (hn : n < 115792089237316195423570985008687907853269984665640564039457584007913129639936) : hvB (bitsTo n 256) = n := by
  rw [hvB_to n (Nat.div_eq_of_lt hn) 256 (Nat.le_refl _), Nat.sub_self, Nat.pow_zero, Nat.div_one]
def ratV (r : Rat4) : Array Value := num r.1 ++ num r.2.1 ++ num r.2.2.1 ++ num r.2.2.2
theorem ratV_rw (r : Rat4) : IsRw 16 (ratV r) := rw_app (rw_app (rw_app (isRw4 (isNum _)) (isRw4 (isNum _))) (isRw4 (isNum _))) (isRw4 (isNum _))
def ptV (p : Nat × Nat) : Array Value := num p.1 ++ num p.2
theorem ptV_rw (p : Nat × Nat) : IsRw 8 (ptV p) := rw_app (isRw4 (isNum _)) (isRw4 (isNum _))
def B4r (t : Rat4) : Prop := t.1 < 115792089237316195423570985008687907853269984665640564039457584007913129639936 ∧ t.2.1 < 115792089237316195423570985008687907853269984665640564039457584007913129639936 ∧ t.2.2.1 < 115792089237316195423570985008687907853269984665640564039457584007913129639936 ∧ t.2.2.2 < 115792089237316195423570985008687907853269984665640564039457584007913129639936
theorem sumR_b4 (t u : Rat4) : B4r (sumR t u) := ⟨pp_lt (mulF_lt _ _), pp_lt (mulF_lt _ _), pp_lt (mulF_lt _ _), pp_lt (mulF_lt _ _)⟩
theorem overR_b4 {p : Nat × Nat} (hp : onN p) : B4r (overR p) := ⟨pp_lt hp.1, pp_lt hp.2.1, by show 1 < _; decide, pp_lt (mulF_lt _ _)⟩
theorem fastR_b4 (p : Nat × Nat) (l : List Bool) : B4r (fastR p l) := by
  obtain ⟨m, hm⟩ : ∃ m, m = l.reverse := ⟨_, rfl⟩
  have hl : l = m.reverse := by rw [hm, List.reverse_reverse]
  subst hl
  cases m with
  | nil => exact overR_b4 noneN_on
  | cons b m =>
    rw [List.reverse_cons, fastR_snoc]
    cases b <;> exact sumR_b4 _ _
open Go.RowKit Go.Shelf
theorem exec_and22 {ρ : Operand → Value} {o : Oper} (x : Operand) (ho : o.op = .binOp .and 34 x (.const (.int .u64 1)) 34) (hc : ρ (.const (.int .u64 1)) = .int .u64 1) (d r : Nat) (hd : d < 18446744073709551616) (hx : ρ x = .int .u64 (d : Int)) (hr : r = d % 2) (w : World) :
    (execOp ρ o).run Tryz.prog w = .ok (.value (.int .u64 (r : Int))) w := by
  have hb := and_one d r hd hr
  clear hr
  unfold execOp
  rw [ho]
  simp only [hx, hc]
  go_simp
theorem exec_gtr22 {ρ : Operand → Value} {o : Oper} (x : Operand) (ho : o.op = .binOp .gtr 34 x (.const (.int .u64 0)) 34) (hc : ρ (.const (.int .u64 0)) = .int .u64 0) (y : Nat) (b : Bool) (hx : ρ x = .int .u64 (y : Int)) (hb : b = decide (0 < y)) (w : World) :
    (execOp ρ o).run Tryz.prog w = .ok (.value (.bool b)) w := by
  have hd := hb.symm
  clear hb
  unfold execOp
  rw [ho]
  simp only [hx, hc]
  go_simp
attribute [local go_sem] Oper.semAt_some
theorem bitsOf_in (n : Nat) (A : Array Value) (w : World) :
    CallsIn Fence.wide n Tryz.prog 93 #[.agg A] w fun e w' => e = .returned (.func (.func 135) #[] #[.pointer (some ⟨w.heap.size, 0, none⟩)]) ∧ w.alloc (.cells A 36) = w' := by
  refine callsIn_of_wp Tryz.func93 rfl trivial ?_ rfl
  simp only [Tryz.ntmps93, List.size_toArray, List.length_cons, List.length_nil, Nat.reduceAdd, Nat.reduceSub, Array.replicate_succ, Array.replicate_zero, List.push_toArray, List.append_toArray, List.nil_append, List.cons_append]
  gi_wp2
  go_ret
  exact ⟨rfl, rfl⟩
def encB (b : Bool) : Array Value := #[.bool b]
def KpB (Bp : Nat) (A B : World) : Prop := B.heap[Bp]? = A.heap[Bp]?
set_option maxHeartbeats 1000000 in
theorem bits1_in (m l Bp k : Nat) (J Jx : List Bool → World → Prop)
    (hY : ∀ pre x W, J pre W → pre.length < 256 → YieldAt Fence.wide (m - 1) Tryz.prog l (encB x) W fun e W' =>
      (e = .returned (.bool true) ∧ J (pre ++ [x]) W' ∧ KpB Bp W W') ∨ (e = .returned (.bool false) ∧ Jx (pre ++ [x]) W'))
    (W : World) (hbox : W.heap[Bp]? = some (.cells (num k) 36 (0, 0))) (h0 : J [] W) (hm : 1 ≤ m) :
    CallsIn Fence.wide m Tryz.prog 135 #[.func (.yield l) #[] #[], .pointer (some ⟨Bp, 0, none⟩)] W fun e W' => (∃ v, e = .returned v) ∧ ((∃ xs, xs = bitsTo k 256 ∧ J xs W') ∨ (∃ pre, True ∧ Jx pre W')) := by
  refine callsIn_of_wp Tryz.func135 rfl trivial ?_ rfl
  simp only [Tryz.ntmps135, List.size_toArray, List.length_cons, List.length_nil, Nat.reduceAdd, Nat.reduceSub, Array.replicate_succ, Array.replicate_zero, List.push_toArray, List.append_toArray, List.nil_append, List.cons_append]
  have HDB := Lib.hid (dig_bit k)
  have HDL := Lib.hid (dig_lt k)
  have HNG := Lib.hid (num_get k)
  obtain ⟨A, hA⟩ : ∃ A, Hid (A = num k) := ⟨_, Lib.hid rfl⟩
  rw [← hA.out] at hbox HNG
  clear hA
  have HBX := Lib.hid hbox
  clear hbox
  gi_wp2
  gi_loopw [3] (fun i wr => ∃ c : Nat, c ≤ 256 ∧ i = .int .i64 (255 - (c : Int)) ∧ J (bitsTo k c) wr ∧ wr.heap[Bp]? = some (.cells A 36 (0, 0)))
    (fun i _ => (1 + intOf i).toNat)
  case atStart => exact ⟨0, Nat.zero_le _, rfl, h0, HBX.out⟩
  case round =>
    clear HBX
    obtain ⟨c, hc, rfl, hJs, hbx⟩ := hrel
    by_cases hlt : c < 256
    · obtain ⟨u, hu⟩ : ∃ u, u = 255 - c := ⟨_, rfl⟩
      rw [show (255 - (c : Int)) = (u : Int) by omega]
      have hu1 : u < 1000 := by omega
      have hbit := HDB.out u (by omega)
      obtain ⟨j, hj⟩ : ∃ j, Hid (j = u / 64) := ⟨_, Lib.hid rfl⟩
      obtain ⟨s, hs⟩ : ∃ s, Hid (s = u % 64) := ⟨_, Lib.hid rfl⟩
      have hs64 : s < 64 := by rw [hs.out]; omega
      have hj4 : j < 4 := by rw [hj.out]; omega
      rw [← hj.out, ← hs.out] at hbit
      obtain ⟨Dg, hDg⟩ : ∃ Dg, Hid (Dg = dig k j) := ⟨_, Lib.hid rfl⟩
      obtain ⟨sh, hsh⟩ : ∃ sh, Hid (sh = Dg / 2 ^ s) := ⟨_, Lib.hid rfl⟩
      obtain ⟨r, hr⟩ : ∃ r, Hid (r = sh % 2) := ⟨_, Lib.hid rfl⟩
      have hshl : sh < 18446744073709551616 := by rw [hsh.out]; exact Nat.lt_of_le_of_lt (Nat.div_le_self _ _) (by rw [hDg.out]; exact HDL.out j)
      have hcell := HNG.out j hj4
      rw [← hDg.out] at hbit hcell
      rw [← hsh.out, ← hr.out] at hbit
      obtain ⟨b, hbv⟩ : ∃ b, Hid (b = decide (0 < r)) := ⟨_, Lib.hid rfl⟩
      have hnx : bitsTo k (c + 1) = bitsTo k c ++ [b] := by
        rw [bitsTo_succ, ← hu]
        unfold bitB
        rw [← hbit, ← hbv.out]
      obtain ⟨fn, tmps, assign, body, hy, hR⟩ := hY (bitsTo k c) b wr hJs (by rw [bitsTo_length]; exact hlt)
      have hR2 := Lib.hid hR
      have HBX := Lib.hid hbx
      have cb : Hid (wr.cell? ⟨Bp, j, none⟩ = some (.int .u64 (Dg : Int))) := Lib.hid ((cell_of_row wr Bp j A 36 (0, 0) hbx).trans hcell)
      have hyy : (Instr.yield l #[.bool b]).run Tryz.prog wr = .ok (.round l fn tmps assign body) wr := hy
      have HNX := Lib.hid hnx
      have HU := Lib.hid hu
      have HHY := Lib.hid hY
      clear hY hJs hR hy hbx hnx hbit hcell hu HDB HDL HNG
      gi_wp2_with (first | (refine wpListIn_run rfl rfl rfl _ (exec_quo64 (.tmp 9) rfl rfl u j hu1 rfl hj.out _) ?_) | (refine wpListIn_run rfl rfl rfl _ (exec_rem64 (.tmp 13) rfl rfl u s hu1 rfl hs.out _) ?_) | (refine wpListIn_run rfl rfl rfl _ (exec_indexAddr24 (.tmp 1) (.tmp 10) rfl Bp j rfl rfl hj4 _) ?_) | (refine wpListIn_run rfl rfl rfl _ (exec_load_one _ 34 (.tmp 11) rfl ⟨Bp, j, none⟩ rfl _ cb.out _ Tryz.underlying34 rfl) ?_) | (refine wpListIn_run rfl rfl rfl _ (exec_shr (.tmp 12) (.tmp 14) rfl Dg s hs64 rfl rfl sh hsh.out _) ?_) | (refine wpListIn_run rfl rfl rfl _ (exec_and22 (.tmp 15) rfl rfl sh r hshl rfl hr.out _) ?_) | (refine wpListIn_run rfl rfl rfl _ (exec_gtr22 (.tmp 16) rfl rfl r b rfl hbv.out _) ?_))
      refine hR2.out.mono ?_
      rintro e W3 (⟨rfl, hJ3, hk3⟩ | ⟨rfl, hJx3⟩)
      · have hbx3 : W3.heap[Bp]? = some (.cells A 36 (0, 0)) := Eq.trans hk3 HBX.out
        clear hk3 cb
        gi_wp2
        go_roundw
        case rel => exact ⟨c + 1, by omega, congrArg (Value.int IntKind.i64) (by have := HU.out; omega), by rw [HNX.out]; exact hJ3, hbx3⟩
        case measure => have := HU.out; simp [intOf]; omega
      · clear cb
        gi_wp2
        refine bodyPost_ret (results_none rfl _ _ _) rfl ?_
        exact ⟨⟨_, rfl⟩, Or.inr ⟨_, trivial, hJx3⟩⟩
    · obtain rfl : c = 256 := by omega
      have HJ := Lib.hid hJs
      clear hJs hY h0 hbx HDB HDL HNG
      rw [show (255 - ((256 : Nat) : Int)) = (-1 : Int) by omega]
      gi_wp2
      go_end0
      exact ⟨⟨_, rfl⟩, .inl ⟨_, rfl, HJ.out⟩⟩
theorem bits_stops (m Bp k : Nat) (w : World) (hbox : w.heap[Bp]? = some (.cells (num k) 36 (0, 0))) (hm : 1 ≤ m) :
    SeqStopsK Fence.wide m Tryz.prog 135 #[.pointer (some ⟨Bp, 0, none⟩)] encB (KpB Bp) (fun xs => xs = bitsTo k 256) (fun _ => True) 256 w := by
  intro l J Jx W hW hJ hJx hY h0
  exact bits1_in m l Bp k J Jx hY W ((hW.block Bp (Array.getElem?_eq_some_iff.1 hbox).1).trans hbox) h0 hm
end Go.Proofs.YtdajmekliodmcaaGreatDoor.P8
namespace Go.Proofs.YtdajmekliodmcaaGreatDoor.P8
open Go.RowKit Go.Shelf
set_option linter.unusedVariables false
set_option linter.unusedSimpArgs false
set_option maxRecDepth 100000 in
set_option maxHeartbeats 2000000 in
theorem over_any (x1 y1 : Nat) (hx1 : x1 < 115792089237316195423570985008687907853269984665640564039457584007913129639936) (hy1 : y1 < 115792089237316195423570985008687907853269984665640564039457584007913129639936) (w : World) :
    Calls Tryz.prog 92 #[.agg (num x1 ++ num y1)] w fun e w' => e = .returned (.agg (num x1 ++ num y1 ++ num 1 ++ num (mulF x1 y1))) ∧ Below w.heap.size w w' := by
  have HC5 := Lib.hid (mulf_any (x1) (y1) hx1 hy1)
  obtain ⟨X10, hX10⟩ : ∃ zz9, Hid (zz9 = num (x1)) := ⟨_, Lib.hid rfl⟩
  have IX10 : IsNum X10 := by rw [hX10.out]; exact isNum _
  obtain ⟨Y10, hY10⟩ : ∃ zz9, Hid (zz9 = num (y1)) := ⟨_, Lib.hid rfl⟩
  have IY10 : IsNum Y10 := by rw [hY10.out]; exact isNum _
  obtain ⟨PA, hPA⟩ : ∃ zz9, Hid (zz9 = X10 ++ Y10) := ⟨_, Lib.hid rfl⟩
  have IPA : IsRw 8 PA := by rw [hPA.out]; exact rw_app (isRw4 IX10) (isRw4 IY10)
  have SPA_0 : Part PA 0 X10 := by rw [hPA.out]; exact part_left 0 (part_all X10) Y10
  have SPA_4 : Part PA 4 Y10 := by rw [hPA.out]; exact part_right (X10) Y10 4 (by simp [IX10.size])
  obtain ⟨ZR1, hZR1⟩ : ∃ zz9, Hid (zz9 = (rowOf .u64 16 (fun _ => 0)).toArray) := ⟨_, Lib.hid rfl⟩
  have SZZR1 : ZR1.size = 16 := by rw [hZR1.out]; rfl
  obtain ⟨NN3, hNN3⟩ : ∃ zz9, Hid (zz9 = num (1)) := ⟨_, Lib.hid rfl⟩
  have INN3 : IsNum NN3 := by rw [hNN3.out]; exact isNum _
  obtain ⟨NN4, hNN4⟩ : ∃ zz9, Hid (zz9 = num (mulF (x1) (y1))) := ⟨_, Lib.hid rfl⟩
  have INN4 : IsNum NN4 := by rw [hNN4.out]; exact isNum _
  obtain ⟨PP7, hPP7⟩ : ∃ zz9, Hid (zz9 = X10 ++ Y10 ++ NN3 ++ NN4) := ⟨_, Lib.hid rfl⟩
  have IPP7 : IsRw 16 PP7 := by rw [hPP7.out]; exact rw_app (rw_app (rw_app (isRw4 IX10) (isRw4 IY10)) (isRw4 INN3)) (isRw4 INN4)
  have SPP7_0 : Part PP7 0 X10 := by rw [hPP7.out]; exact part_left 0 (part_left 0 (part_left 0 (part_all X10) Y10) NN3) NN4
  have SPP7_4 : Part PP7 4 Y10 := by rw [hPP7.out]; exact part_left 4 (part_left 4 (part_right (X10) Y10 4 (by simp [IX10.size])) NN3) NN4
  have SPP7_8 : Part PP7 8 NN3 := by rw [hPP7.out]; exact part_left 8 (part_right (X10 ++ Y10) NN3 8 (by simp [IX10.size, IY10.size])) NN4
  have SPP7_12 : Part PP7 12 NN4 := by rw [hPP7.out]; exact part_right (X10 ++ Y10 ++ NN3) NN4 12 (by simp [IX10.size, IY10.size, INN3.size])
  have HZ66 : ∀ w, (zeroValue 103).run Tryz.prog w = .ok (.agg ZR1) w := by rw [hZR1.out]; exact zeroT66
  have BF2 : ∀ w, (Instr.build 36 #[(0, .int .u64 1)]).run Tryz.prog w = .ok (.agg NN3) w := by rw [hNN3.out]; exact build_run 1 (by decide)
  have BF6 : ∀ w, (Instr.build 103 #[(0, .agg X10), (1, .agg Y10), (2, .agg NN3), (3, .agg NN4)]).run Tryz.prog w = .ok (.agg PP7) w := by rw [hPP7.out]; exact br0123 IX10 IY10 INN3 INN4
  try simp only [← hX10.out, ← hY10.out, ← hNN3.out, ← hNN4.out] at HC5 ⊢
  try simp only [← hZR1.out, ← hPP7.out] at HC5 ⊢
  try simp only [← hPA.out] at HC5 ⊢
  clear hX10 hY10 hPA hZR1 hNN3 hNN4 hPP7 hx1 hy1
  go_enter Tryz.func92, Tryz.ntmps92
  have HS : Hid (Kt w [] w) := Lib.hid (Kt.nil w)
  go_upto_region 0 with fail
  refine wp_region_list ?_
  refine wpList_run rfl _ (exec_box _ 60 (.tmp 0) rfl _ rfl (PA) rfl) ?_
  simp only [Act.put, sT, sS, sZ]
  have bg3 := HS.out.1.size
  have HS2 := Lib.hid (HS.out.new PA 60)
  clear HS
  generalize w.alloc (.cells PA 60) = w1 at *
  refine wpList_run rfl _ (exec_alloc_agg _ 103 rfl _ (HZ66 _)) ?_
  simp only [Act.put, sT, sS, sZ]
  have lg6_0 := HS2.out.lt (w.heap.size) PA 60 (by simp)
  have bg6 := HS2.out.1.size
  have HS5 := Lib.hid (HS2.out.new ZR1 103)
  clear HS2
  generalize w1.alloc (.cells ZR1 103) = w4 at *
  generalize w1.heap.size = g6 at *
  refine wpList_nil ?_
  go_upto_region 1 with fail
  refine wp_cut (fun a' W' => a' = { tmps := #[.agg PA, .pointer (some ⟨w.heap.size, 0, none⟩), .pointer (some ⟨g6, 0, none⟩), .pointer (some ⟨w.heap.size, 0, none⟩), .agg X10, .pointer (some ⟨w.heap.size, 4, none⟩), .agg Y10, .agg NN3, .pointer (some ⟨w.heap.size, 0, none⟩), .agg X10, .pointer (some ⟨w.heap.size, 4, none⟩), .agg Y10, .agg NN4, .agg PP7], defers := [] } ∧ Kt w [(g6, PP7, 103)] W') ?_ ?_
  · refine wp_region_any (by kernel_rfl) ?_
    change wpAny _ _ _ _ _ _ _ (World.drew _)
    have HDq7x1 := HS5.out.drew
    clear HS5
    generalize w4.drew = wdq7x2 at *
    refine any_of_F (S := Kt w [(g6, ZR1, 103), (w.heap.size, PA, 60)]) (f := 11) _ _ _ _ ?_
    refine tkL 0 (some 3) (.fieldAddr 60 (.tmp 1) 0) (.pointer (some ⟨w.heap.size, 0, none⟩)) (fun o ho w2 hw => exec_field 60 (.tmp 1) 0 ho _ _ rfl w2 (fa26_0 (w.heap.size) w2)) HDq7x1 ?_
    simp only [Act.put, sT, sS, sZ]
    refine tkL 1 (some 4) (.load 36 (.tmp 3)) (.agg X10) (fun o ho w2 hw => exec_load_of _ 36 (.tmp 3) ho ⟨w.heap.size, 0, none⟩ rfl _ (load_part (hw.get (w.heap.size) PA 60 (by simp)) IX10 0 SPA_0)) HDq7x1 ?_
    simp only [Act.put, sT, sS, sZ]
    refine tkL 2 (some 5) (.fieldAddr 60 (.tmp 1) 1) (.pointer (some ⟨w.heap.size, 4, none⟩)) (fun o ho w2 hw => exec_field 60 (.tmp 1) 1 ho _ _ rfl w2 (fa26_1 (w.heap.size) w2)) HDq7x1 ?_
    simp only [Act.put, sT, sS, sZ]
    refine tkL 3 (some 6) (.load 36 (.tmp 5)) (.agg Y10) (fun o ho w2 hw => exec_load_of _ 36 (.tmp 5) ho ⟨w.heap.size, 4, none⟩ rfl _ (load_part (hw.get (w.heap.size) PA 60 (by simp)) IY10 4 SPA_4)) HDq7x1 ?_
    simp only [Act.put, sT, sS, sZ]
    refine tkL 4 (some 7) (.build 36 #[(0, .const (.int .u64 1))]) (.agg NN3) (fun o ho w2 hw => exec_buildN _ 36 #[(0, .const (.int .u64 1))] ho #[(0, .int .u64 1)] (by simp [Act.eval]) _ (BF2 _)) HDq7x1 ?_
    simp only [Act.put, sT, sS, sZ]
    refine tkL 5 (some 8) (.fieldAddr 60 (.tmp 1) 0) (.pointer (some ⟨w.heap.size, 0, none⟩)) (fun o ho w2 hw => exec_field 60 (.tmp 1) 0 ho _ _ rfl w2 (fa26_0 (w.heap.size) w2)) HDq7x1 ?_
    simp only [Act.put, sT, sS, sZ]
    refine tkL 6 (some 9) (.load 36 (.tmp 8)) (.agg X10) (fun o ho w2 hw => exec_load_of _ 36 (.tmp 8) ho ⟨w.heap.size, 0, none⟩ rfl _ (load_part (hw.get (w.heap.size) PA 60 (by simp)) IX10 0 SPA_0)) HDq7x1 ?_
    simp only [Act.put, sT, sS, sZ]
    refine tkL 7 (some 10) (.fieldAddr 60 (.tmp 1) 1) (.pointer (some ⟨w.heap.size, 4, none⟩)) (fun o ho w2 hw => exec_field 60 (.tmp 1) 1 ho _ _ rfl w2 (fa26_1 (w.heap.size) w2)) HDq7x1 ?_
    simp only [Act.put, sT, sS, sZ]
    refine tkL 8 (some 11) (.load 36 (.tmp 10)) (.agg Y10) (fun o ho w2 hw => exec_load_of _ 36 (.tmp 10) ho ⟨w.heap.size, 4, none⟩ rfl _ (load_part (hw.get (w.heap.size) PA 60 (by simp)) IY10 4 SPA_4)) HDq7x1 ?_
    simp only [Act.put, sT, sS, sZ]
    refine rdy [9] (rcl (some 12) 130 #[.tmp 9, .tmp 11] #[36, 36] #[.agg X10, .agg Y10] en40 _ (HC5.out _) ?_ ReadyF.nil)
    rintro v wq7x11 ⟨he, hb⟩
    cases he
    have Hq7x12 := HDq7x1.below hb
    clear hb
    refine ⟨Hq7x12, ?_⟩
    simp only [Act.put, sT, sS, sZ]
    refine tkL 10 (some 13) (.build 103 #[(0, .tmp 4), (1, .tmp 6), (2, .tmp 7), (3, .tmp 12)]) (.agg PP7) (fun o ho w2 hw => exec_buildN _ 103 #[(0, .tmp 4), (1, .tmp 6), (2, .tmp 7), (3, .tmp 12)] ho #[(0, .agg X10), (1, .agg Y10), (2, .agg NN3), (3, .agg NN4)] (by simp [Act.eval]) _ (BF6 _)) Hq7x12 ?_
    simp only [Act.put, sT, sS, sZ]
    refine rdy [11] (ReadyF.last (.store 103 (.tmp 2) (.tmp 13)) rfl (fun o ho => exec_storeT66 wq7x11 (.tmp 2) (.tmp 13) ho (g6) rfl PP7 IPP7 rfl ZR1 103 (Hq7x12.get (g6) ZR1 103 (by simp)) SZZR1) ?_ ReadyF.nil)
    refine any_doneF (by kernel_rfl) ?_ _
    have Hq7x13 : Kt w [(g6, PP7, 103), (w.heap.size, PA, 60)] (wq7x11.setRow (g6) PP7) := Hq7x12.set (g6) PP7 ZR1 103 (Hq7x12.get (g6) ZR1 103 (by simp)) (by omega) (fun p hp => by simp at hp; rcases hp with rfl | rfl <;> first | exact .inl rfl | exact .inr ⟨by simp, by simp only; omega⟩)
    refine nrm_intro ⟨rfl, Hq7x13.sub (fun p hp => by simp at hp; subst hp; simp)⟩
  rintro a' w8 ⟨rfl, hk⟩
  have HS9 := Lib.hid hk
  clear hk HS5
  go_wp2
  exact bodyPost_ret (results_cell rfl _ _ _ ⟨g6, 0, none⟩ rfl _ (loadT66 IPP7 (HS9.out.get (g6) PP7 103 (by simp)))) rfl ⟨rfl, HS9.out.1⟩
set_option maxRecDepth 100000 in
set_option maxHeartbeats 2000000 in
theorem plain_any (x1 y1 z1 t1 : Nat) (hx1 : x1 < 115792089237316195423570985008687907853269984665640564039457584007913129639936) (hy1 : y1 < 115792089237316195423570985008687907853269984665640564039457584007913129639936) (hz1 : z1 < 115792089237316195423570985008687907853269984665640564039457584007913129639936) (ht1 : t1 < 115792089237316195423570985008687907853269984665640564039457584007913129639936) (w : World) :
    Calls Tryz.prog 90 #[.agg (num x1 ++ num y1 ++ num z1 ++ num t1)] w fun e w' => e = .returned (.agg (num (mulF x1 (invF z1)) ++ num (mulF y1 (invF z1)))) ∧ Below w.heap.size w w' := by
  have HC3 := Lib.hid (inv_any (z1) hz1)
  have HC6 := Lib.hid (mulf_any (x1) (invF (z1)) hx1 (pp_lt (invF_lt _)))
  have HC8 := Lib.hid (mulf_any (y1) (invF (z1)) hy1 (pp_lt (invF_lt _)))
  obtain ⟨X10, hX10⟩ : ∃ zz9, Hid (zz9 = num (x1)) := ⟨_, Lib.hid rfl⟩
  have IX10 : IsNum X10 := by rw [hX10.out]; exact isNum _
  obtain ⟨Y10, hY10⟩ : ∃ zz9, Hid (zz9 = num (y1)) := ⟨_, Lib.hid rfl⟩
  have IY10 : IsNum Y10 := by rw [hY10.out]; exact isNum _
  obtain ⟨Z10, hZ10⟩ : ∃ zz9, Hid (zz9 = num (z1)) := ⟨_, Lib.hid rfl⟩
  have IZ10 : IsNum Z10 := by rw [hZ10.out]; exact isNum _
  obtain ⟨T10, hT10⟩ : ∃ zz9, Hid (zz9 = num (t1)) := ⟨_, Lib.hid rfl⟩
  have IT10 : IsNum T10 := by rw [hT10.out]; exact isNum _
  obtain ⟨PA, hPA⟩ : ∃ zz9, Hid (zz9 = X10 ++ Y10 ++ Z10 ++ T10) := ⟨_, Lib.hid rfl⟩
  have IPA : IsRw 16 PA := by rw [hPA.out]; exact rw_app (rw_app (rw_app (isRw4 IX10) (isRw4 IY10)) (isRw4 IZ10)) (isRw4 IT10)
  have SPA_0 : Part PA 0 X10 := by rw [hPA.out]; exact part_left 0 (part_left 0 (part_left 0 (part_all X10) Y10) Z10) T10
  have SPA_4 : Part PA 4 Y10 := by rw [hPA.out]; exact part_left 4 (part_left 4 (part_right (X10) Y10 4 (by simp [IX10.size])) Z10) T10
  have SPA_8 : Part PA 8 Z10 := by rw [hPA.out]; exact part_left 8 (part_right (X10 ++ Y10) Z10 8 (by simp [IX10.size, IY10.size])) T10
  have SPA_12 : Part PA 12 T10 := by rw [hPA.out]; exact part_right (X10 ++ Y10 ++ Z10) T10 12 (by simp [IX10.size, IY10.size, IZ10.size])
  obtain ⟨ZR1, hZR1⟩ : ∃ zz9, Hid (zz9 = (rowOf .u64 8 (fun _ => 0)).toArray) := ⟨_, Lib.hid rfl⟩
  have SZZR1 : ZR1.size = 8 := by rw [hZR1.out]; rfl
  obtain ⟨NN2, hNN2⟩ : ∃ zz9, Hid (zz9 = num (invF (z1))) := ⟨_, Lib.hid rfl⟩
  have INN2 : IsNum NN2 := by rw [hNN2.out]; exact isNum _
  obtain ⟨NN4, hNN4⟩ : ∃ zz9, Hid (zz9 = num (0)) := ⟨_, Lib.hid rfl⟩
  have INN4 : IsNum NN4 := by rw [hNN4.out]; exact isNum _
  obtain ⟨NN5, hNN5⟩ : ∃ zz9, Hid (zz9 = num (mulF (x1) (invF (z1)))) := ⟨_, Lib.hid rfl⟩
  have INN5 : IsNum NN5 := by rw [hNN5.out]; exact isNum _
  obtain ⟨NN7, hNN7⟩ : ∃ zz9, Hid (zz9 = num (mulF (y1) (invF (z1)))) := ⟨_, Lib.hid rfl⟩
  have INN7 : IsNum NN7 := by rw [hNN7.out]; exact isNum _
  obtain ⟨PP10, hPP10⟩ : ∃ zz9, Hid (zz9 = NN5 ++ NN7) := ⟨_, Lib.hid rfl⟩
  have IPP10 : IsRw 8 PP10 := by rw [hPP10.out]; exact rw_app (isRw4 INN5) (isRw4 INN7)
  have SPP10_0 : Part PP10 0 NN5 := by rw [hPP10.out]; exact part_left 0 (part_all NN5) NN7
  have SPP10_4 : Part PP10 4 NN7 := by rw [hPP10.out]; exact part_right (NN5) NN7 4 (by simp [INN5.size])
  have HZ26 : ∀ w, (zeroValue 60).run Tryz.prog w = .ok (.agg ZR1) w := by rw [hZR1.out]; exact zeroT26
  have HZ24 : ∀ w, (zeroValue 36).run Tryz.prog w = .ok (.agg NN4) w := by rw [hNN4.out]; exact zero_run
  have SZNN4 := INN4.size
  have BF9 : ∀ w, (Instr.build 60 #[(0, .agg NN5), (1, .agg NN7)]).run Tryz.prog w = .ok (.agg PP10) w := by rw [hPP10.out]; exact bp01 INN5 INN7
  try simp only [← hX10.out, ← hY10.out, ← hZ10.out, ← hT10.out, ← hNN2.out, ← hNN4.out, ← hNN5.out, ← hNN7.out] at HC3 HC6 HC8 ⊢
  try simp only [← hPA.out] at HC3 HC6 HC8 ⊢
  try simp only [← hZR1.out, ← hPP10.out] at HC3 HC6 HC8 ⊢
  clear hX10 hY10 hZ10 hT10 hPA hZR1 hNN2 hNN4 hNN5 hNN7 hPP10 hx1 hy1 hz1 ht1
  go_enter Tryz.func90, Tryz.ntmps90
  have HS : Hid (Kt w [] w) := Lib.hid (Kt.nil w)
  go_upto_region 0 with fail
  refine wp_region_list ?_
  refine wpList_run rfl _ (exec_box _ 103 (.tmp 0) rfl _ rfl (PA) rfl) ?_
  simp only [Act.put, sT, sS, sZ]
  have bg3 := HS.out.1.size
  have HS2 := Lib.hid (HS.out.new PA 103)
  clear HS
  generalize w.alloc (.cells PA 103) = w1 at *
  refine wpList_run rfl _ (exec_alloc_agg _ 60 rfl _ (HZ26 _)) ?_
  simp only [Act.put, sT, sS, sZ]
  have lg6_0 := HS2.out.lt (w.heap.size) PA 103 (by simp)
  have bg6 := HS2.out.1.size
  have HS5 := Lib.hid (HS2.out.new ZR1 60)
  clear HS2
  generalize w1.alloc (.cells ZR1 60) = w4 at *
  generalize w1.heap.size = g6 at *
  refine wpList_nil ?_
  go_upto_region 1 with fail
  refine wp_region_list ?_
  refine wpList_run rfl (.pointer (some ⟨w.heap.size, 8, none⟩)) (exec_field 103 (.tmp 1) 2 rfl _ _ rfl _ (fa66_2 (w.heap.size) _)) ?_
  simp only [Act.put, sT, sS, sZ]
  refine wpList_run rfl (.agg Z10) (exec_load_of _ 36 (.tmp 4) rfl ⟨w.heap.size, 8, none⟩ rfl _ (load_part (HS5.out.get (w.heap.size) PA 103 (by simp)) IZ10 8 SPA_8)) ?_
  simp only [Act.put, sT, sS, sZ]
  refine wpList_callF rfl 133 #[.tmp 5] #[36] rfl #[.agg Z10] en53 (HC3.out _) ?_
  rintro v w7 ⟨he, hb⟩
  cases he
  have HS8 := Lib.hid (HS5.out.below hb)
  clear hb HS5
  simp only [Act.put, sT, sS, sZ]
  refine wpList_run rfl _ (exec_alloc_agg _ 36 rfl _ (HZ24 _)) ?_
  simp only [Act.put, sT, sS, sZ]
  have lg11_0 := HS8.out.lt (g6) ZR1 60 (by simp)
  have lg11_1 := HS8.out.lt (w.heap.size) PA 103 (by simp)
  have bg11 := HS8.out.1.size
  have HS10 := Lib.hid (HS8.out.new NN4 36)
  clear HS8
  generalize w7.alloc (.cells NN4 36) = w9 at *
  generalize w7.heap.size = g11 at *
  refine wpList_run0 rfl (exec_store24 _ (.tmp 3) (.tmp 6) rfl (g11) rfl NN2 INN2 rfl NN4 36 (HS10.out.get (g11) NN4 36 (by simp)) SZNN4) ?_
  simp only [Act.put, sT, sS, sZ]
  have HS13 : Hid (Kt w [(g11, NN2, 36), (g6, ZR1, 60), (w.heap.size, PA, 103)] (w9.setRow (g11) NN2)) := Lib.hid (HS10.out.set (g11) NN2 NN4 36 (HS10.out.get (g11) NN4 36 (by simp)) (by omega) (fun p hp => by simp at hp; rcases hp with rfl | rfl | rfl <;> first | exact .inl rfl | exact .inr ⟨by simp, by simp only; omega⟩))
  clear HS10
  generalize w9.setRow (g11) NN2 = w12 at *
  refine wpList_nil ?_
  go_upto_region 2 with fail
  refine wp_cut (fun a' W' => a' = { tmps := #[.agg PA, .pointer (some ⟨w.heap.size, 0, none⟩), .pointer (some ⟨g6, 0, none⟩), .pointer (some ⟨g11, 0, none⟩), .pointer (some ⟨w.heap.size, 8, none⟩), .agg Z10, .agg NN2, .pointer (some ⟨w.heap.size, 0, none⟩), .agg X10, .agg NN2, .agg NN5, .pointer (some ⟨w.heap.size, 4, none⟩), .agg Y10, .agg NN2, .agg NN7, .agg PP10], defers := [] } ∧ Kt w [(g6, PP10, 60)] W') ?_ ?_
  · refine wp_region_any (by kernel_rfl) ?_
    change wpAny _ _ _ _ _ _ _ (World.drew _)
    have HDq14x1 := HS13.out.drew
    clear HS13
    generalize w12.drew = wdq14x2 at *
    refine any_of_F (S := Kt w [(g11, NN2, 36), (g6, ZR1, 60), (w.heap.size, PA, 103)]) (f := 9) _ _ _ _ ?_
    refine tkL 0 (some 7) (.fieldAddr 103 (.tmp 1) 0) (.pointer (some ⟨w.heap.size, 0, none⟩)) (fun o ho w2 hw => exec_field 103 (.tmp 1) 0 ho _ _ rfl w2 (fa66_0 (w.heap.size) w2)) HDq14x1 ?_
    simp only [Act.put, sT, sS, sZ]
    refine tkL 1 (some 8) (.load 36 (.tmp 7)) (.agg X10) (fun o ho w2 hw => exec_load_of _ 36 (.tmp 7) ho ⟨w.heap.size, 0, none⟩ rfl _ (load_part (hw.get (w.heap.size) PA 103 (by simp)) IX10 0 SPA_0)) HDq14x1 ?_
    simp only [Act.put, sT, sS, sZ]
    refine tkL 2 (some 9) (.load 36 (.tmp 3)) (.agg NN2) (fun o ho w2 hw => exec_load_of _ 36 (.tmp 3) ho ⟨g11, 0, none⟩ rfl _ (loadA24 INN2 (hw.get (g11) NN2 36 (by simp)))) HDq14x1 ?_
    simp only [Act.put, sT, sS, sZ]
    refine tkL 4 (some 11) (.fieldAddr 103 (.tmp 1) 1) (.pointer (some ⟨w.heap.size, 4, none⟩)) (fun o ho w2 hw => exec_field 103 (.tmp 1) 1 ho _ _ rfl w2 (fa66_1 (w.heap.size) w2)) HDq14x1 ?_
    simp only [Act.put, sT, sS, sZ]
    refine tkL 5 (some 12) (.load 36 (.tmp 11)) (.agg Y10) (fun o ho w2 hw => exec_load_of _ 36 (.tmp 11) ho ⟨w.heap.size, 4, none⟩ rfl _ (load_part (hw.get (w.heap.size) PA 103 (by simp)) IY10 4 SPA_4)) HDq14x1 ?_
    simp only [Act.put, sT, sS, sZ]
    refine tkL 6 (some 13) (.load 36 (.tmp 3)) (.agg NN2) (fun o ho w2 hw => exec_load_of _ 36 (.tmp 3) ho ⟨g11, 0, none⟩ rfl _ (loadA24 INN2 (hw.get (g11) NN2 36 (by simp)))) HDq14x1 ?_
    simp only [Act.put, sT, sS, sZ]
    refine rdy [3] (rcl (some 10) 130 #[.tmp 8, .tmp 9] #[36, 36] #[.agg X10, .agg NN2] en40 _ (HC6.out _) ?_ ReadyF.nil)
    rintro v wq14x11 ⟨he, hb⟩
    cases he
    have Hq14x12 := HDq14x1.below hb
    clear hb
    refine ⟨Hq14x12, ?_⟩
    simp only [Act.put, sT, sS, sZ]
    refine rdy [7] (rcl (some 14) 130 #[.tmp 12, .tmp 13] #[36, 36] #[.agg Y10, .agg NN2] en40 _ (HC8.out _) ?_ ReadyF.nil)
    rintro v wq14x13 ⟨he, hb⟩
    cases he
    have Hq14x14 := Hq14x12.below hb
    clear hb
    refine ⟨Hq14x14, ?_⟩
    simp only [Act.put, sT, sS, sZ]
    refine tkL 8 (some 15) (.build 60 #[(0, .tmp 10), (1, .tmp 14)]) (.agg PP10) (fun o ho w2 hw => exec_buildN _ 60 #[(0, .tmp 10), (1, .tmp 14)] ho #[(0, .agg NN5), (1, .agg NN7)] (by simp [Act.eval]) _ (BF9 _)) Hq14x14 ?_
    simp only [Act.put, sT, sS, sZ]
    refine rdy [9] (ReadyF.last (.store 60 (.tmp 2) (.tmp 15)) rfl (fun o ho => exec_storeT26 wq14x13 (.tmp 2) (.tmp 15) ho (g6) rfl PP10 IPP10 rfl ZR1 60 (Hq14x14.get (g6) ZR1 60 (by simp)) SZZR1) ?_ ReadyF.nil)
    refine any_doneF (by kernel_rfl) ?_ _
    have Hq14x15 : Kt w [(g11, NN2, 36), (g6, PP10, 60), (w.heap.size, PA, 103)] (wq14x13.setRow (g6) PP10) := Hq14x14.set (g6) PP10 ZR1 60 (Hq14x14.get (g6) ZR1 60 (by simp)) (by omega) (fun p hp => by simp at hp; rcases hp with rfl | rfl | rfl <;> first | exact .inl rfl | exact .inr ⟨by simp, by simp only; omega⟩)
    refine nrm_intro ⟨rfl, Hq14x15.sub (fun p hp => by simp at hp; subst hp; simp)⟩
  rintro a' w15 ⟨rfl, hk⟩
  have HS16 := Lib.hid hk
  clear hk HS13
  go_wp2
  exact bodyPost_ret (results_cell rfl _ _ _ ⟨g6, 0, none⟩ rfl _ (loadT26 IPP10 (HS16.out.get (g6) PP10 60 (by simp)))) rfl ⟨rfl, HS16.out.1⟩
end Go.Proofs.YtdajmekliodmcaaGreatDoor.P8
