/- Several texts, one behind the other; each says by itself what it proves, and on what conditions. -/
import Derived.Test.YtdbbcngolcnniaaDoorY06
/- Functions that are iterators: calls of what is given to yield. No condition. -/
namespace Go.Proofs.YtdbbcngolcnniaaDoor.E
open Go Go.RowKit
set_option linter.unusedVariables false
set_option linter.unusedSimpArgs false
theorem At.loopM {P : Program} {r : Option Nat} {n : Nat} {gl : List Nat} {Q : Exit → Act → World → Prop} {c : Code} {k : List Item} {α : Type} (w0 : α → World) (wr : α → Bs) (mk : α → List Nat) (tm : α → List (Nat × TV)) (rows : α → List (Nat × Row)) (I : α → Prop) (μ : α → Nat)
  (h : ∀ x, I x → (∀ y, I y → μ y < μ x → At P (w0 y) (wr y) n gl (.code c :: .inLoop c :: k) Q (tm y) (rows y) r (mk y)) → At P (w0 x) (wr x) n gl (.code c :: .inLoop c :: k) Q (tm x) (rows x) r (mk x)) :
  ∀ x, I x → At P (w0 x) (wr x) n gl (.code c :: .inLoop c :: k) Q (tm x) (rows x) r (mk x) := by
 intro x hx a w ρ hd
 refine KX.loop (D := fun x a w => I x ∧ ∃ ρ, Den (w0 x) (wr x) ρ (mkSt n (tm x) (rows x) gl (mk x)) a w) μ ?_ x a w ⟨hx, ρ, hd⟩
 rintro x ih a w ⟨hx, ρ, hd⟩
 exact h x hx (fun y hy hlt a w ρ hd => ih y hlt a w ⟨hy, ρ, hd⟩) a w ρ hd
theorem At.loopW {P : Program} {r : Option Nat} {mk : List Nat} {n : Nat} {gl : List Nat} {Q : Exit → Act → World → Prop} {c : Code} {k : List Item} {α : Type} (w0 : α → World) (wr : α → Bs) (tm : α → List (Nat × TV)) (rows : α → List (Nat × Row)) (I : α → Prop) (μ : α → Nat)
  (h : ∀ x, I x → (∀ y, I y → μ y < μ x → At P (w0 y) (wr y) n gl (.code c :: .inLoop c :: k) Q (tm y) (rows y) r mk) → At P (w0 x) (wr x) n gl (.code c :: .inLoop c :: k) Q (tm x) (rows x) r mk) :
  ∀ x, I x → At P (w0 x) (wr x) n gl (.code c :: .inLoop c :: k) Q (tm x) (rows x) r mk := At.loopM w0 wr (fun _ => mk) tm rows I μ h
theorem grown_of_fr {w0 w : World} (h : Fr w0 [] w) : w0.grownBy w none := ⟨h.os, h.tape, h.output, h.size, fun k hk _ => h.block k hk (by simp)⟩
theorem abides_fr {α : Type} {B : Nat} {J : α → World → Prop} (hJ : AbidesFrom B J) {x : α} {w0 w : World} (h : J x w0) (hf : Fr w0 [] w) : J x w := hJ x w0 w none h (grown_of_fr hf) (fun r e => by cases e)
theorem wpIn_out {P : Program} {F : Fence} {n : Nat} {o : Oper} {a : Act} {w : World} {K : Act → World → Prop} {Q Q' : Exit → Act → World → Prop} (h : o.wpIn F n P a w K Q) (hq : ∀ e a w, e ≠ .normal → Q e a w → False) : o.wpIn F n P a w K Q' := by
 refine ⟨h.1, ?_⟩
 have h2 := h.2
 revert h2
 generalize (o.semAt F.round a.eval).run P w = res
 intro h2
 have hl : LetsOut Q → LetsOut Q' := fun ⟨a, w, h⟩ => (hq _ a w (by simp) h).elim
 cases res with
 | ok x w' =>
  cases x with
  | enter f args => exact ⟨h2.1, CallsIn.mono h2.2 fun e w'' he => by cases e <;> first | exact he | exact (hq _ _ _ (by simp) he).elim | exact hl he⟩
  | round l f tmps assign body => exact ⟨h2.1, RoundIn.mono h2.2 fun e w'' he => by cases e <;> first | exact he | exact (hq _ _ _ (by simp) he).elim | exact hl he⟩
  | _ => exact h2
 | halt x w' => cases x <;> first | exact (hq _ _ _ (by simp) h2).elim | exact h2
theorem wpOpsIn_append {P : Program} {ops : Array Oper} {r : Option Nat} {n : Nat} {Q : Exit → Act → World → Prop} {K : Act → World → Prop} (hn : noDef ops = true) {l2 : List Nat} (h2 : ∀ a w, K a w → wpOpsIn (FW r) n P ops Q l2 a w) :
  ∀ (l : List Nat) (a : Act) (w : World), wpOps P ops (fun e a w => e = .normal ∧ K a w) l a w → wpOpsIn (FW r) n P ops Q (l ++ l2) a w
 | [], a, w, h => h2 a w h.2
 | i :: l, a, w, h => by
  rw [wpOps_cons] at h
  rw [List.cons_append, wpOpsIn_cons]
  have hL : ¬ LetsOut (fun e a w => e = Exit.normal ∧ K a w) := fun ⟨_, _, h, _⟩ => by cases h
  unfold wpOp at h
  unfold wpOpIn
  cases hk : ops[i]? with
  | none => rw [hk] at h; exact wpOpsIn_append hn h2 l _ _ h
  | some o =>
   rw [hk] at h
   simp only at h ⊢
   split
   ·rename_i hw
    rw [if_pos hw] at h
    rcases h with h | h
    ·have h3 := wpIn_of_wp (r := r) (n := n) (noDef_ok hn hk) h
     refine wpIn_out (Oper.wpIn_mono (fun a w h => wpOpsIn_append hn h2 l a w h) h3) (fun e a w he h => he h.1)
    ·exact absurd h.2 hL
   ·rename_i hw
    rw [if_neg hw] at h
    exact ⟨fun _ _ => trivial, wpOpsIn_append hn h2 l _ _ h⟩
def yRun (P : Program) (C : Hints) (ops : Array Oper) (base m : Nat) (s : St) : Option (List Prop × St) := runL P C ops base (recL P C ops base m 0 s) m 0 s
def yRest (P : Program) (C : Hints) (ops : Array Oper) (base m : Nat) (s : St) : Option (List Prop × St) :=
 runL P C ops base (List.replicate (m + 1) ([], []) ++ recL P C ops base (ops.size - (m + 1)) (m + 1) s) (ops.size - (m + 1)) (m + 1) s
def yCall (ops : Array Oper) (m : Nat) (s : St) : Option (Tmp × Nat × List TV) :=
 match ops[m]? with
 | some o => match o.guard, o.dst, o.op with
  | none, some d, .call c => match c.callee with
   | .value y => match evalO s y, evalL s c.args.toList with
    | some (.s (.lf (.v (.func (.yield l) fi ca)))), some vs => bif Nat.ble (d + 1) s.n && (Nat.beq fi.toList.length 0 && Nat.beq ca.toList.length 0) then some (d, l, vs) else none
    | _, _ => none
   | _ => none
  | _, _, _ => none
 | none => none
def keepR (kr : List Nat) (f : Nat → Option Row) (r : Nat) : Option Row := bif hasN kr r then match f r with
 | some row => some ⟨row.ps, false, row.cp⟩
 | none => none else none
def aftY (kr : List Nat) (d : Tmp) (b : Bool) (s : St) : St := { s with tmps := setT s.tmps (some d) (.v (.bool b)), row := keepR kr s.row }
def yield1 (P : Program) (C : Hints) (ops : Array Oper) (base m : Nat) (kr : List Nat) (s : St) (b : Bool) (ks rs : List Nat) : Option (List Prop × Nat × List TV × List Prop × List (Option TV) × List (Option Row)) :=
 match yRun P C ops base m s with
 | some (o1, s1) => match yCall ops m s1 with
  | some (d, l, vs) => match yRest P C ops base m (aftY kr d b s1) with
   | some (o2, s2) => some (o1, l, vs, o2, ks.map s2.tmps, rs.map s2.row)
   | none => none
  | none => none
 | none => none
theorem yCall_lt {ops : Array Oper} {m : Nat} {s : St} {d l : Nat} {vs : List TV} (h : yCall ops m s = some (d, l, vs)) : d < s.n := by
 unfold yCall at h
 split at h
 ·split at h
  ·split at h
   ·split at h
    ·rename_i fi ca vs2 hy hvs
     cases hb : (Nat.ble (_ + 1) s.n && (Nat.beq fi.toList.length 0 && Nat.beq ca.toList.length 0)) with
     | false => rw [hb] at h; cases h
     | true =>
      rw [hb] at h
      cases h
      simp only [Bool.and_eq_true] at hb
      exact Nat.le_of_ble_eq_true hb.1
    ·cases h
   ·cases h
  ·cases h
 ·cases h
theorem yCall_ok {P : Program} {ops : Array Oper} {m : Nat} {s : St} {d l : Nat} {vs : List TV} {w0 : World} {wr : Bs} {ρ : Env} {a : Act} {w : World} {Q : Exit → Act → World → Prop} {K : Act → World → Prop} {n : Nat} (h : yCall ops m s = some (d, l, vs)) (hd : Den w0 wr ρ s a w)
  (hY : YieldAt (FW none) (n - 1) P l (vs.map (TV.val ρ)).toArray w fun e w' => ∃ b, e = .returned (.bool b) ∧ K (a.put (some d) (.bool b)) w') : d < s.n ∧ wpOpIn (FW none) n P ops Q m K a w := by
 unfold yCall at h
 split at h
 ·rename_i o ho
  split at h
  ·rename_i d2 c hg hdst hop
   split at h
   ·rename_i y hc
    split at h
    ·rename_i l2 fi ca vs2 hy hvs
     cases hb : (Nat.ble (d2 + 1) s.n && (Nat.beq fi.toList.length 0 && Nat.beq ca.toList.length 0)) with
     | false => rw [hb] at h; cases h
     | true =>
      rw [hb] at h
      cases h
      simp only [Bool.and_eq_true] at hb
      obtain ⟨hb, hb2, hb3⟩ := hb
      obtain rfl : fi = #[] := by apply Array.ext'; exact List.length_eq_zero_iff.1 (Nat.eq_of_beq_eq_true hb2)
      obtain rfl : ca = #[] := by apply Array.ext'; exact List.length_eq_zero_iff.1 (Nat.eq_of_beq_eq_true hb3)
      refine ⟨Nat.le_of_ble_eq_true hb, ?_⟩
      have h1 := (evalO_ok hd hy).1
      have h2 := (evalL_ok hd hvs).1
      obtain ⟨fn, tmps, assign, body, g1, g2⟩ := hY
      unfold wpOpIn
      rw [ho]
      simp only
      rw [if_pos (by simp [Region.wanted, hg])]
      refine ⟨fun _ _ => trivial, ?_⟩
      rw [Oper.semAt_eq _ _ _ (by rw [hop]; intro c hc; cases hc)]
      have h3 : c.args.map a.eval = (vs.map (TV.val ρ)).toArray := by
       apply Array.ext'
       rw [Array.toList_map, h2]
      have hrun : (execOp a.eval o).run P w = .ok (.round l fn tmps assign body) w := by
       unfold execOp
       rw [hop]
       simp only [resolve, hc, h1, TV.val, SV.val, Lf.val, h3, Sem.run_bind, Sem.run_pure, Result.andThen_ok, invoke]
       simp [go_sem, g1]
      rw [hrun]
      refine ⟨fun h => by simp [FW, Fence.wide] at h, RoundIn.mono g2 ?_⟩
      rintro e w' ⟨b, rfl, hk⟩
      rw [hdst]
      exact hk
    ·cases h
   ·cases h
  ·cases h
 ·cases h
theorem den_aft {w0 w w' : World} {e ρ : Env} {s : St} {a : Act} {kr : List Nat} {d : Tmp} {b : Bool} (h : Den w0 ⟨[], e, []⟩ ρ s a w) (hm : s.mks = []) (hd : d < s.n) (hkr : kr.all (fun r => Nat.ble (r + 1) 1000) = true) (hk : ∀ r ∈ kr, w'.heap[(e r).1]? = w.heap[(e r).1]?) :
  Den w' ⟨[], e, []⟩ ρ (aftY kr d b s) (a.put (some d) (.bool b)) w' := by
 have hrow : ∀ r row, keepR kr s.row r = some row → row.w = false ∧ ∃ row0, s.row r = some row0 ∧ row0.ps = row.ps ∧ row0.cp = row.cp ∧ w'.heap[(ρ r).1]? = w.heap[(ρ r).1]? := by
  intro r row hr
  unfold keepR at hr
  cases hn : hasN kr r with
  | false => rw [hn] at hr; cases hr
  | true =>
   rw [hn] at hr
   simp only [cond_true] at hr
   split at hr
   ·rename_i row0 h0
    cases hr
    refine ⟨rfl, row0, h0, rfl, rfl, ?_⟩
    have hr2 := hasN_iff.1 hn
    have hlt := Nat.le_of_ble_eq_true (List.all_eq_true.1 hkr r hr2)
    rw [h.e0 r (.inl (by omega))]
    exact hk r hr2
   ·cases hr
 refine ⟨by rw [put_size]; exact h.sz, ?_, ⟨?_, fun D hD => ?_⟩, KeepsOthers.refl _, fun t x hx => ?_, fun r row hr => ?_, fun r q row rq hr hq hrq hw => ?_, Fr.refl _ _, fun r hr => h.e0 r hr, (fun r hr => by cases hr), h.gl, h.kn⟩
 ·rw [put_defers]; exact h.df
 ·show s.mks.Nodup
  rw [hm]; exact List.nodup_nil
 ·have : D ∈ s.mks := hD
  rw [hm] at this; cases this
 ·have := (den_set (v := .v (.bool b)) h hd rfl (fun r hr => by cases hr)).tm t x hx
  exact this
 ·obtain ⟨h1, row0, h2, h3, h4, h5⟩ := hrow r row hr
  obtain ⟨g1, g2, g3, g4, _⟩ := h.rw r row0 h2
  obtain ⟨cur, t, fz, hc⟩ := g1.2.2.2
  refine ⟨⟨lt_of_block (by rw [h5]; exact hc), fun j v hv => ⟨?_, fun hw => by rw [h1] at hw; cases hw⟩, fun e2 k hcp => ?_, by rw [h5]; exact ⟨cur, t, fz, hc⟩⟩, by rw [← h3]; exact g2, g3, by rw [← h3]; exact g4, fun hw => by rw [h1] at hw; cases hw⟩
  ·rw [← h3] at hv
   have : w'.cell? ⟨(ρ r).1, (ρ r).2 + j, none⟩ = w.cell? ⟨(ρ r).1, (ρ r).2 + j, none⟩ := World.cell?_of_block (w := w) h5
   rw [this]; exact (g1.2.1 j v hv).1
  ·rw [h5, ← h3]; exact g1.2.2.1 e2 k (by rw [h4]; exact hcp)
 ·obtain ⟨h1, _⟩ := hrow r row hr
  rw [h1] at hw; cases hw
theorem rest_ok {P : Program} {C : Hints} {ops : Array Oper} {base m : Nat} {r : Option Nat} {nn : Nat} {w0 : World} {wr : Bs} {s t : St} {ob : List Prop} {Q : Exit → Act → World → Prop} (hn : noDef ops = true) (hC : ∀ id c, C id = some c → HintAt P w0 wr id c) (h : yRest P C ops base m s = some (ob, t)) (ho : all ob)
  (hK : ∀ a w ρ, Den w0 wr ρ t a w → Q .normal a w) {a : Act} {w : World} {ρ : Env} (hd : Den w0 wr ρ s a w) : wpOpsIn (FW r) nn P ops Q (List.range' (m + 1) (ops.size - (m + 1))) a w := by
 have := wpOpsIn_append (P := P) (r := r) (n := nn) (Q := Q) (K := fun a w => Q .normal a w) hn (l2 := []) (fun a w h => h) (List.range' (m + 1) (ops.size - (m + 1))) a w (seq_ok hC (fun a w ρ hd => ⟨rfl, hK a w ρ hd⟩) _ _ _ _ _ _ _ h ho hd)
 rwa [List.append_nil] at this
theorem At.yield {P : Program} {α : Type} {J Jx : List α → World → Prop} {B N nn l rid m : Nat} {encs : α → Array Value} {Kp : World → World → Prop} {W0 : World} {e : Env} {n : Nat} {gl : List Nat} {k : List Item} {ops : Array Oper} {Q : Exit → Act → World → Prop} {tm tmT tmF : List (Nat × TV)} {rows rowsT : List (Nat × Row)} {o1 o2 o3 : List Prop} {vs : List TV}
  (hm : P.follows .mixedOrders = true) (pre : List α) (x : α) (cs : List (Nat × Hint)) (hC : allC P cs) (kr : List Nat)
  (hJa : AbidesFrom B J) (hJ : J pre W0) (hlen : pre.length < N)
  (hY : ∀ pre x W1, J pre W1 → pre.length < N → YieldAt (FW none) (nn - 1) P l (encs x) W1 fun e W' => (e = .returned (.bool true) ∧ J (pre ++ [x]) W' ∧ Kp W1 W') ∨ (e = .returned (.bool false) ∧ Jx (pre ++ [x]) W'))
  (hKp : ∀ W W', Kp W W' → ∀ r ∈ kr, W'.heap[(e r).1]? = W.heap[(e r).1]?)
  (hT : yield1 P (findC cs) ops (1000 + rid * 1000) m kr (mkSt n tm rows gl) true (tmT.map (·.1)) (rowsT.map (·.1)) = some (o1, l, vs, o2, tmT.map (fun p => some p.2), rowsT.map fun p => some p.2))
  (hF : yield1 P (findC cs) ops (1000 + rid * 1000) m [] (mkSt n tm rows gl) false (tmF.map (·.1)) [] = some (o1, l, vs, o3, tmF.map (fun p => some p.2), []))
  (ho : all (o1 ++ o2 ++ o3)) (hx : ∀ ρ : Env, (∀ r, r < 1000 → ρ r = e r) → (vs.map (TV.val ρ)).toArray = encs x) (hg : gl.all (fun g => Nat.ble (g + 1) 500) = true) (hs : (noDef ops && (Nat.ble (m + 1) ops.size && (kr.all (fun r => Nat.ble (r + 1) 1000) && (idsOk tmT rowsT gl && idsOk tmF [] gl)))) = true)
  (hKT : ∀ W', J (pre ++ [x]) W' → At P W' ⟨[], e, []⟩ n gl k Q tmT rowsT none []) (hKF : ∀ W', Jx (pre ++ [x]) W' → At P W' ⟨[], e, []⟩ n gl k Q tmF [] none []) :
  At P W0 ⟨[], e, []⟩ n gl (.code (.region rid ops false) :: k) Q tm rows none [] := by
 intro a w ρ hd
 simp only [Bool.and_eq_true] at hs
 obtain ⟨hnd, hms, hkr, hiT, hiF⟩ := hs
 have hms := Nat.le_of_ble_eq_true hms
 have hC2 : ∀ {W : World} {wq : Bs}, ∀ id c, findC cs id = some c → HintAt P W wq id c := findC_at hC
 obtain ⟨ho, ho3⟩ := all_append.1 ho
 obtain ⟨ho1, ho2⟩ := all_append.1 ho
 unfold yield1 at hT hF
 split at hT
 ·rename_i p1 s1 hr1
  rw [hr1] at hF
  simp only at hF
  split at hT
  ·rename_i d l2 vs2 hy
   rw [hy] at hF
   simp only at hF
   split at hT
   ·rename_i p2 s2 hr2
    split at hF
    ·rename_i p3 s3 hr3
     simp only [Option.some.injEq, Prod.mk.injEq] at hT hF
     obtain ⟨rfl, rfl, rfl, rfl, eT1, eT2⟩ := hT
     obtain ⟨_, _, _, rfl, eF1, _⟩ := hF
     obtain ⟨k1, k2⟩ := runL_keep hr1
     refine KX.code (n := nn) (K := fun a w => KX P none k Q a w) (wpIn_region ?_) fun a w h => h
     rw [show List.range ops.size = List.range' 0 m ++ (m :: List.range' (m + 1) (ops.size - (m + 1))) by
      rw [List.range_eq_range', ← List.range'_succ]
      have := List.range'_append_1 (s := 0) (m := m) (n := ops.size - (m + 1) + 1)
      rw [Nat.zero_add] at this
      rw [this]
      congr 1
      omega]
     refine wpOpsIn_append (K := fun a w => ∃ ρ, Den W0 ⟨[], e, []⟩ ρ s1 a w) hnd (fun a w ⟨ρ, hd⟩ => ?_) _ a w (seq_ok hC2 (fun a w ρ hd => ⟨rfl, ρ, hd⟩) _ _ _ _ _ _ _ hr1 ho1 hd)
     rw [wpOpsIn_cons]
     have hJw : J pre w := abides_fr hJa hJ hd.fr
     have hYw := hY pre x w hJw hlen
     rw [← hx ρ (fun r hr => hd.e0 r (.inl hr))] at hYw
     obtain ⟨fn, tmps, assign, body, g1, g2⟩ := hYw
     have hd1 : d < s1.n := yCall_lt hy
     refine (yCall_ok (n := nn) hy hd ⟨fn, tmps, assign, body, g1, RoundIn.mono g2 ?_⟩).2
     rintro en w' (⟨rfl, h1, h2⟩ | ⟨rfl, h1⟩)
     ·refine ⟨true, rfl, ?_⟩
      have hd2 := den_aft (b := true) hd k1.2 hd1 hkr (hKp _ _ h2)
      refine rest_ok hnd hC2 hr2 ho2 (fun a w ρ hd3 => ⟨rfl, ?_⟩) hd2
      obtain ⟨j1, j2⟩ := runL_keep hr2
      have := den_mk (gl := gl) hd3 eT1 eT2 (fun g hgm => ⟨Nat.le_of_ble_eq_true (List.all_eq_true.1 hg g hgm), j2 _ (k2 _ (hasN_iff.2 (List.mem_append.2 (.inr (List.mem_map.2 ⟨g, hgm, rfl⟩)))))⟩) hiT rfl
      rw [j1.1, j1.2] at this
      have e1 : (aftY kr d true s1).n = n := k1.1
      have e2 : (aftY kr d true s1).mks = [] := k1.2
      rw [e1, e2] at this
      exact hKT w' h1 a w ρ this
     ·refine ⟨false, rfl, ?_⟩
      have hd2 := den_aft (w' := w') (b := false) (kr := []) hd k1.2 hd1 rfl (fun r hr => by cases hr)
      refine rest_ok hnd hC2 hr3 ho3 (fun a w ρ hd3 => ⟨rfl, ?_⟩) hd2
      obtain ⟨j1, j2⟩ := runL_keep hr3
      have := den_mk (gl := gl) (rows := []) hd3 eF1 rfl (fun g hgm => ⟨Nat.le_of_ble_eq_true (List.all_eq_true.1 hg g hgm), j2 _ (k2 _ (hasN_iff.2 (List.mem_append.2 (.inr (List.mem_map.2 ⟨g, hgm, rfl⟩)))))⟩) hiF rfl
      rw [j1.1, j1.2] at this
      have e1 : (aftY [] d false s1).n = n := k1.1
      have e2 : (aftY [] d false s1).mks = [] := k1.2
      rw [e1, e2] at this
      exact hKF w' h1 a w ρ this
    ·cases hF
   ·cases hT
  ·cases hT
 ·cases hT
end Go.Proofs.YtdbbcngolcnniaaDoor.E
/- Places of a function's code by their numbers; the rules for rounds at places. No condition. -/
namespace Go.Proofs.YtdbbcngolcnniaaDoor.E
open Go Go.RowKit
set_option linter.unusedVariables false
set_option linter.unusedSimpArgs false
def regsIn : Code → List Item → List (Nat × List Item)
 | .seq x y, k => regsIn x (.code y :: k) ++ regsIn y k
 | .block id x, k => regsIn x (.inBlock id :: k)
 | .scope x, k => regsIn x (.inScope x :: k)
 | .cond _ x y, k => regsIn x k ++ regsIn y k
 | .loop x, k => regsIn x (.inLoop x :: k)
 | .region id ops d, k => [(id, .code (.region id ops d) :: k)]
 | .rangeFunc _ _ _ b, _ => regsIn b []
 | _, _ => []
def findI : List (Nat × List Item) → Nat → List Item
 | [], _ => []
 | p :: l, r => bif Nat.beq p.1 r then p.2 else findI l r
def rp (f : Func) (id : Nat) : List Item := findI (regsIn (bodyOf f) []) id
def hdOps : List Item → Array Oper
 | .code (.region _ ops _) :: _ => ops
 | _ => #[]
def hdRid : List Item → Nat
 | .code (.region id _ _) :: _ => id
 | _ => 0
def isReg : List Item → Bool
 | .code (.region _ _ false) :: _ => true
 | _ => false
theorem isReg_ok : ∀ {t : List Item}, isReg t = true → t = .code (.region (hdRid t) (hdOps t) false) :: t.tail
 | .code (.region id ops false) :: k, _ => rfl
def hdBody : List Item → Code
 | .code (.rangeFunc _ _ _ b) :: _ => b
 | _ => .skip
end Go.Proofs.YtdbbcngolcnniaaDoor.E
/- A call of which the answer is told by 'there is': at its place in a region; the world reckoned from anew. No condition. -/
namespace Go.Proofs.YtdbbcngolcnniaaDoor.E
open Go Go.RowKit
set_option linter.unusedVariables false
set_option linter.unusedSimpArgs false
def xCall (ops : Array Oper) (m : Nat) (s : St) : Option (Tmp × FuncId × List TV) :=
 match ops[m]? with
 | some o => match o.guard, o.dst, o.op with
  | none, some d, .call c => match c.callee with
   | .value y => match evalO s y, evalL s c.args.toList with
    | some (.s (.lf (.v (.func (.func f) fi ca)))), some vs => bif Nat.beq fi.toList.length 0 && Nat.beq ca.toList.length 0 then some (d, f, vs) else none
    | _, _ => none
   | _ => none
  | _, _, _ => none
 | none => none
theorem xCall_ok {P : Program} {ops : Array Oper} {m : Nat} {s : St} {d : Tmp} {f : FuncId} {vs : List TV} {w0 : World} {wr : Bs} {ρ : Env} {a : Act} {w : World} {Q : Exit → Act → World → Prop} {K : Act → World → Prop} {r : Option Nat} {n : Nat} (h : xCall ops m s = some (d, f, vs)) (hd : Den w0 wr ρ s a w) (he : Enters P f)
  (hc : Calls P f (vs.map (TV.val ρ)).toArray w fun e w' => ∃ v, e = .returned v ∧ K (a.put (some d) v) w') : wpOpIn (FW r) n P ops Q m K a w := by
 unfold xCall at h
 split at h
 ·rename_i o ho
  split at h
  ·rename_i d2 c hg hdst hop
   split at h
   ·rename_i y hcal
    split at h
    ·rename_i f2 fi ca vs2 hy hvs
     cases hb : (Nat.beq fi.toList.length 0 && Nat.beq ca.toList.length 0) with
     | false => rw [hb] at h; cases h
     | true =>
      rw [hb] at h
      cases h
      rw [Bool.and_eq_true] at hb
      obtain rfl : fi = #[] := by apply Array.ext'; exact List.length_eq_zero_iff.1 (Nat.eq_of_beq_eq_true hb.1)
      obtain rfl : ca = #[] := by apply Array.ext'; exact List.length_eq_zero_iff.1 (Nat.eq_of_beq_eq_true hb.2)
      have h1 := (evalO_ok hd hy).1
      have h2 := (evalL_ok hd hvs).1
      unfold wpOpIn
      rw [ho]
      simp only
      rw [if_pos (by simp [Region.wanted, hg])]
      refine ⟨fun _ _ => trivial, ?_⟩
      rw [Oper.semAt_eq _ _ _ (by rw [hop]; intro c hc; cases hc)]
      have h3 : c.args.map a.eval = (vs.map (TV.val ρ)).toArray := by
       apply Array.ext'
       rw [Array.toList_map, h2]
      have hrun : (execOp a.eval o).run P w = .ok (.enter f (vs.map (TV.val ρ)).toArray) w := by
       unfold execOp
       rw [hop]
       simp only [resolve, hcal, h1, TV.val, SV.val, Lf.val, h3, Deferred.ofValue, Sem.run_bind, Sem.run_pure, Result.andThen_ok, invoke, Array.append_empty, Array.empty_append]
       exact he _ w
      rw [hrun]
      refine ⟨fun h => by simp [FW, Fence.wide] at h, CallsIn.mono (callsIn_FW hc) ?_⟩
      rintro e w' ⟨v, rfl, hk⟩
      rw [hdst]
      exact hk
    ·cases h
   ·cases h
  ·cases h
 ·cases h
end Go.Proofs.YtdbbcngolcnniaaDoor.E
/- An operation told by its own contract, at its place in a region, drawn or not (there it is the last); the world reckoned from anew. No condition. -/
namespace Go.Proofs.YtdbbcngolcnniaaDoor.E
open Go Go.RowKit
set_option linter.unusedVariables false
set_option linter.unusedSimpArgs false
end Go.Proofs.YtdbbcngolcnniaaDoor.E
/- A region that draws its order, of which every operation but the last is pure: by values, whatever the order; a state told anew. No condition. -/
namespace Go.Proofs.YtdbbcngolcnniaaDoor.E
open Go Go.RowKit
set_option linter.unusedVariables false
set_option linter.unusedSimpArgs false
structure Kn (n : Nat) (df : List Deferred) (B D : List (Tmp × Value)) (L : Nat → Bool) (a : Act) : Prop where
 sz : a.tmps.size = n
 df : a.defers = df
 b : ∀ p ∈ B, a.tmps[p.1]? = some p.2
 d : ∀ i p, D[i]? = some p → L i = true → a.tmps[p.1]? = some p.2
theorem Kn.put {n : Nat} {df : List Deferred} {B D : List (Tmp × Value)} {L L' : Nat → Bool} {a : Act} (h : Kn n df B D L a) {i : Nat} {p : Tmp × Value} (hp : D[i]? = some p) (hL : ∀ j, L' j = true → L j = true ∨ j = i) (hn : (D.map (·.1)).Nodup) (hB : ∀ q ∈ B, q.1 ≠ p.1) (hs : p.1 < n) : Kn n df B D L' (a.put (some p.1) p.2) := by
 have hput : ∀ t, (a.put (some p.1) p.2).tmps[t]? = if t = p.1 then some p.2 else a.tmps[t]? := by
  intro t
  show (a.tmps.setIfInBounds p.1 p.2)[t]? = _
  rw [Array.getElem?_setIfInBounds]
  by_cases ht : t = p.1
  ·subst ht; simp [h.sz, hs]
  ·rw [if_neg (Ne.symm ht), if_neg ht]
 refine ⟨by rw [put_size]; exact h.sz, by rw [put_defers]; exact h.df, fun q hq => by rw [hput, if_neg (hB q hq)]; exact h.b q hq, fun j q hq hj => ?_⟩
 rw [hput]
 by_cases he : q.1 = p.1
 ·have h1 : i < D.length := (List.getElem?_eq_some_iff.1 hp).1
  have h2 : j < D.length := (List.getElem?_eq_some_iff.1 hq).1
  have hpw := List.pairwise_iff_getElem.1 hn
  have e1 : (D.map (·.1))[i]'(by simpa using h1) = p.1 := by rw [List.getElem_map, (List.getElem?_eq_some_iff.1 hp).2]
  have e2 : (D.map (·.1))[j]'(by simpa using h2) = q.1 := by rw [List.getElem_map, (List.getElem?_eq_some_iff.1 hq).2]
  have : i = j := by
   rcases Nat.lt_trichotomy i j with h | h | h
   ·exact absurd (e1.trans (he.symm.trans e2.symm)) (hpw i j _ _ h)
   ·exact h
   ·exact absurd (e2.trans (he.trans e1.symm)) (hpw j i _ _ h)
  subst this
  rw [hp] at hq
  cases hq
  rw [if_pos rfl]
 ·rw [if_neg he]
  rcases hL j hj with h3 | h3
  ·exact h.d j q hq h3
  ·subst h3
   rw [hp] at hq
   cases hq
   exact absurd rfl he
end Go.Proofs.YtdbbcngolcnniaaDoor.E
/- A call under a guard, by its contract; a run to an exit. No condition. -/
namespace Go.Proofs.YtdbbcngolcnniaaDoor.E
open Go Go.RowKit
set_option linter.unusedVariables false
set_option linter.unusedSimpArgs false
end Go.Proofs.YtdbbcngolcnniaaDoor.E
