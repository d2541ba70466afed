/- Several texts, one behind the other; each says by itself what it proves, and on what conditions. -/
import Derived.Test.YtgbaaiedpiiepaaDoorV14
/- Functions that are iterators: calls of what is given to yield. No condition. -/
namespace Go.Proofs.YtgbaaiedpiiepaaDoor.E
open Go Go.RowKit
set_option linter.unusedVariables false
set_option linter.unusedSimpArgs false

/-- A loop of which every head may be come to with another world to begin with, with other marks. -/
theorem At.loopM {P : Program} {r : Option Nat} {n : Nat} {gl : List Nat} {Q : Exit → Act → World → Prop} {c : Code} {k : List Item} {α : Type} (w0 : α → World) (wr : α → Bs) (mk : α → List Nat) (tm : α → List (Nat × TV)) (rows : α → List (Nat × Row)) (I : α → Prop) (μ : α → Nat)
    (h : ∀ x, I x → (∀ y, I y → μ y < μ x → At P (w0 y) (wr y) n gl (.code c :: .inLoop c :: k) Q (tm y) (rows y) r (mk y)) → At P (w0 x) (wr x) n gl (.code c :: .inLoop c :: k) Q (tm x) (rows x) r (mk x)) :
    ∀ x, I x → At P (w0 x) (wr x) n gl (.code c :: .inLoop c :: k) Q (tm x) (rows x) r (mk x) := by
  intro x hx a w ρ hd
  refine KX.loop (D := fun x a w => I x ∧ ∃ ρ, Den (w0 x) (wr x) ρ (mkSt n (tm x) (rows x) gl (mk x)) a w) μ ?_ x a w ⟨hx, ρ, hd⟩
  rintro x ih a w ⟨hx, ρ, hd⟩
  exact h x hx (fun y hy hlt a w ρ hd => ih y hlt a w ⟨hy, ρ, hd⟩) a w ρ hd
/-- The same, the marks as they are. -/
theorem At.loopW {P : Program} {r : Option Nat} {mk : List Nat} {n : Nat} {gl : List Nat} {Q : Exit → Act → World → Prop} {c : Code} {k : List Item} {α : Type} (w0 : α → World) (wr : α → Bs) (tm : α → List (Nat × TV)) (rows : α → List (Nat × Row)) (I : α → Prop) (μ : α → Nat)
    (h : ∀ x, I x → (∀ y, I y → μ y < μ x → At P (w0 y) (wr y) n gl (.code c :: .inLoop c :: k) Q (tm y) (rows y) r mk) → At P (w0 x) (wr x) n gl (.code c :: .inLoop c :: k) Q (tm x) (rows x) r mk) :
    ∀ x, I x → At P (w0 x) (wr x) n gl (.code c :: .inLoop c :: k) Q (tm x) (rows x) r mk := At.loopM w0 wr (fun _ => mk) tm rows I μ h
theorem grown_of_fr {w0 w : World} (h : Fr w0 [] w) : w0.grownBy w none := ⟨h.os, h.tape, h.output, h.size, fun k hk _ => h.block k hk (by simp)⟩
theorem abides_fr {α : Type} {B : Nat} {J : α → World → Prop} (hJ : AbidesFrom B J) {x : α} {w0 w : World} (h : J x w0) (hf : Fr w0 [] w) : J x w := hJ x w0 w none h (grown_of_fr hf) (fun r e => by cases e)

theorem wpIn_out {P : Program} {F : Fence} {n : Nat} {o : Oper} {a : Act} {w : World} {K : Act → World → Prop} {Q Q' : Exit → Act → World → Prop} (h : o.wpIn F n P a w K Q) (hq : ∀ e a w, e ≠ .normal → Q e a w → False) : o.wpIn F n P a w K Q' := by
  refine ⟨h.1, ?_⟩
  have h2 := h.2
  revert h2
  generalize (o.semAt F.round a.eval).run P w = res
  intro h2
  have hl : LetsOut Q → LetsOut Q' := fun ⟨a, w, h⟩ => (hq _ a w (by simp) h).elim
  cases res with
  | ok x w' =>
    cases x with
    | enter f args => exact ⟨h2.1, CallsIn.mono h2.2 fun e w'' he => by cases e <;> first | exact he | exact (hq _ _ _ (by simp) he).elim | exact hl he⟩
    | round l f tmps assign body => exact ⟨h2.1, RoundIn.mono h2.2 fun e w'' he => by cases e <;> first | exact he | exact (hq _ _ _ (by simp) he).elim | exact hl he⟩
    | _ => exact h2
  | halt x w' => cases x <;> first | exact (hq _ _ _ (by simp) h2).elim | exact h2
theorem wpOpsIn_append {P : Program} {ops : Array Oper} {r : Option Nat} {n : Nat} {Q : Exit → Act → World → Prop} {K : Act → World → Prop} (hn : noDef ops = true) {l2 : List Nat} (h2 : ∀ a w, K a w → wpOpsIn (FW r) n P ops Q l2 a w) :
    ∀ (l : List Nat) (a : Act) (w : World), wpOps P ops (fun e a w => e = .normal ∧ K a w) l a w → wpOpsIn (FW r) n P ops Q (l ++ l2) a w
  | [], a, w, h => h2 a w h.2
  | i :: l, a, w, h => by
    rw [wpOps_cons] at h
    rw [List.cons_append, wpOpsIn_cons]
    have hL : ¬ LetsOut (fun e a w => e = Exit.normal ∧ K a w) := fun ⟨_, _, h, _⟩ => by cases h
    unfold wpOp at h
    unfold wpOpIn
    cases hk : ops[i]? with
    | none => rw [hk] at h; exact wpOpsIn_append hn h2 l _ _ h
    | some o =>
      rw [hk] at h
      simp only at h ⊢
      split
      · rename_i hw
        rw [if_pos hw] at h
        rcases h with h | h
        · have h3 := wpIn_of_wp (r := r) (n := n) (noDef_ok hn hk) h
          refine wpIn_out (Oper.wpIn_mono (fun a w h => wpOpsIn_append hn h2 l a w h) h3) (fun e a w he h => he h.1)
        · exact absurd h.2 hL
      · rename_i hw
        rw [if_neg hw] at h
        exact ⟨fun _ _ => trivial, wpOpsIn_append hn h2 l _ _ h⟩

def yRun (P : Program) (C : Hints) (ops : Array Oper) (base m : Nat) (s : St) : Option (List Prop × St) := runL P C ops base (recL P C ops base m 0 s) m 0 s
def yRest (P : Program) (C : Hints) (ops : Array Oper) (base m : Nat) (s : St) : Option (List Prop × St) :=
  runL P C ops base (List.replicate (m + 1) ([], []) ++ recL P C ops base (ops.size - (m + 1)) (m + 1) s) (ops.size - (m + 1)) (m + 1) s
/-- Which round is called for, with what, and where the answer goes. -/
def yCall (ops : Array Oper) (m : Nat) (s : St) : Option (Tmp × Nat × List TV) :=
  match ops[m]? with
  | some o => match o.guard, o.dst, o.op with
    | none, some d, .call c => match c.callee with
      | .value y => match evalO s y, evalL s c.args.toList with
        | some (.s (.lf (.v (.func (.yield l) fi ca)))), some vs => bif Nat.ble (d + 1) s.n && (Nat.beq fi.toList.length 0 && Nat.beq ca.toList.length 0) then some (d, l, vs) else none
        | _, _ => none
      | _ => none
    | _, _, _ => none
  | none => none
/-- The rows that a round leaves as they are; none is written any more. -/
def keepR (kr : List Nat) (f : Nat → Option Row) (r : Nat) : Option Row := bif hasN kr r then match f r with
  | some row => some ⟨row.ps, false, row.cp⟩
  | none => none else none
def aftY (kr : List Nat) (d : Tmp) (b : Bool) (s : St) : St := { s with tmps := setT s.tmps (some d) (.v (.bool b)), row := keepR kr s.row }
/-- Ahead of a round, and behind it. -/
def yield1 (P : Program) (C : Hints) (ops : Array Oper) (base m : Nat) (kr : List Nat) (s : St) (b : Bool) (ks rs : List Nat) : Option (List Prop × Nat × List TV × List Prop × List (Option TV) × List (Option Row)) :=
  match yRun P C ops base m s with
  | some (o1, s1) => match yCall ops m s1 with
    | some (d, l, vs) => match yRest P C ops base m (aftY kr d b s1) with
      | some (o2, s2) => some (o1, l, vs, o2, ks.map s2.tmps, rs.map s2.row)
      | none => none
    | none => none
  | none => none
theorem yCall_lt {ops : Array Oper} {m : Nat} {s : St} {d l : Nat} {vs : List TV} (h : yCall ops m s = some (d, l, vs)) : d < s.n := by
  unfold yCall at h
  split at h
  · split at h
    · split at h
      · split at h
        · rename_i fi ca vs2 hy hvs
          cases hb : (Nat.ble (_ + 1) s.n && (Nat.beq fi.toList.length 0 && Nat.beq ca.toList.length 0)) with
          | false => rw [hb] at h; cases h
          | true =>
            rw [hb] at h
            cases h
            simp only [Bool.and_eq_true] at hb
            exact Nat.le_of_ble_eq_true hb.1
        · cases h
      · cases h
    · cases h
  · cases h
theorem yCall_ok {P : Program} {ops : Array Oper} {m : Nat} {s : St} {d l : Nat} {vs : List TV} {w0 : World} {wr : Bs} {ρ : Env} {a : Act} {w : World} {Q : Exit → Act → World → Prop} {K : Act → World → Prop} {n : Nat} (h : yCall ops m s = some (d, l, vs)) (hd : Den w0 wr ρ s a w)
    (hY : YieldAt (FW none) (n - 1) P l (vs.map (TV.val ρ)).toArray w fun e w' => ∃ b, e = .returned (.bool b) ∧ K (a.put (some d) (.bool b)) w') : d < s.n ∧ wpOpIn (FW none) n P ops Q m K a w := by
  unfold yCall at h
  split at h
  · rename_i o ho
    split at h
    · rename_i d2 c hg hdst hop
      split at h
      · rename_i y hc
        split at h
        · rename_i l2 fi ca vs2 hy hvs
          cases hb : (Nat.ble (d2 + 1) s.n && (Nat.beq fi.toList.length 0 && Nat.beq ca.toList.length 0)) with
          | false => rw [hb] at h; cases h
          | true =>
            rw [hb] at h
            cases h
            simp only [Bool.and_eq_true] at hb
            obtain ⟨hb, hb2, hb3⟩ := hb
            obtain rfl : fi = #[] := by apply Array.ext'; exact List.length_eq_zero_iff.1 (Nat.eq_of_beq_eq_true hb2)
            obtain rfl : ca = #[] := by apply Array.ext'; exact List.length_eq_zero_iff.1 (Nat.eq_of_beq_eq_true hb3)
            refine ⟨Nat.le_of_ble_eq_true hb, ?_⟩
            have h1 := (evalO_ok hd hy).1
            have h2 := (evalL_ok hd hvs).1
            obtain ⟨fn, tmps, assign, body, g1, g2⟩ := hY
            unfold wpOpIn
            rw [ho]
            simp only
            rw [if_pos (by simp [Region.wanted, hg])]
            refine ⟨fun _ _ => trivial, ?_⟩
            rw [Oper.semAt_eq _ _ _ (by rw [hop]; intro c hc; cases hc)]
            have h3 : c.args.map a.eval = (vs.map (TV.val ρ)).toArray := by
              apply Array.ext'
              rw [Array.toList_map, h2]
            have hrun : (execOp a.eval o).run P w = .ok (.round l fn tmps assign body) w := by
              unfold execOp
              rw [hop]
              simp only [resolve, hc, h1, TV.val, SV.val, Lf.val, h3, Sem.run_bind, Sem.run_pure, Result.andThen_ok, invoke]
              simp [go_sem, g1]
            rw [hrun]
            refine ⟨fun h => by simp [FW, Fence.wide] at h, RoundIn.mono g2 ?_⟩
            rintro e w' ⟨b, rfl, hk⟩
            rw [hdst]
            exact hk
        · cases h
      · cases h
    · cases h
  · cases h

theorem den_aft {w0 w w' : World} {e ρ : Env} {s : St} {a : Act} {kr : List Nat} {d : Tmp} {b : Bool} (h : Den w0 ⟨[], e, []⟩ ρ s a w) (hm : s.mks = []) (hd : d < s.n) (hkr : kr.all (fun r => Nat.ble (r + 1) 1000) = true) (hk : ∀ r ∈ kr, w'.heap[(e r).1]? = w.heap[(e r).1]?) :
    Den w' ⟨[], e, []⟩ ρ (aftY kr d b s) (a.put (some d) (.bool b)) w' := by
  have hrow : ∀ r row, keepR kr s.row r = some row → row.w = false ∧ ∃ row0, s.row r = some row0 ∧ row0.ps = row.ps ∧ row0.cp = row.cp ∧ w'.heap[(ρ r).1]? = w.heap[(ρ r).1]? := by
    intro r row hr
    unfold keepR at hr
    cases hn : hasN kr r with
    | false => rw [hn] at hr; cases hr
    | true =>
      rw [hn] at hr
      simp only [cond_true] at hr
      split at hr
      · rename_i row0 h0
        cases hr
        refine ⟨rfl, row0, h0, rfl, rfl, ?_⟩
        have hr2 := hasN_iff.1 hn
        have hlt := Nat.le_of_ble_eq_true (List.all_eq_true.1 hkr r hr2)
        rw [h.e0 r (.inl (by omega))]
        exact hk r hr2
      · cases hr
  refine ⟨by rw [put_size]; exact h.sz, ?_, ⟨?_, fun D hD => ?_⟩, KeepsOthers.refl _, fun t x hx => ?_, fun r row hr => ?_, fun r q row rq hr hq hrq hw => ?_, Fr.refl _ _, fun r hr => h.e0 r hr, (fun r hr => by cases hr), h.gl, h.kn⟩
  · rw [put_defers]; exact h.df
  · show s.mks.Nodup
    rw [hm]; exact List.nodup_nil
  · have : D ∈ s.mks := hD
    rw [hm] at this; cases this
  · have := (den_set (v := .v (.bool b)) h hd rfl (fun r hr => by cases hr)).tm t x hx
    exact this
  · obtain ⟨h1, row0, h2, h3, h4, h5⟩ := hrow r row hr
    obtain ⟨g1, g2, g3, g4, _⟩ := h.rw r row0 h2
    obtain ⟨cur, t, fz, hc⟩ := g1.2.2.2
    refine ⟨⟨lt_of_block (by rw [h5]; exact hc), fun j v hv => ⟨?_, fun hw => by rw [h1] at hw; cases hw⟩, fun e2 k hcp => ?_, by rw [h5]; exact ⟨cur, t, fz, hc⟩⟩, by rw [← h3]; exact g2, g3, by rw [← h3]; exact g4, fun hw => by rw [h1] at hw; cases hw⟩
    · rw [← h3] at hv
      have : w'.cell? ⟨(ρ r).1, (ρ r).2 + j, none⟩ = w.cell? ⟨(ρ r).1, (ρ r).2 + j, none⟩ := World.cell?_of_block (w := w) h5
      rw [this]; exact (g1.2.1 j v hv).1
    · rw [h5, ← h3]; exact g1.2.2.1 e2 k (by rw [h4]; exact hcp)
  · obtain ⟨h1, _⟩ := hrow r row hr
    rw [h1] at hw; cases hw
theorem rest_ok {P : Program} {C : Hints} {ops : Array Oper} {base m : Nat} {r : Option Nat} {nn : Nat} {w0 : World} {wr : Bs} {s t : St} {ob : List Prop} {Q : Exit → Act → World → Prop} (hn : noDef ops = true) (hC : ∀ id c, C id = some c → HintOk P id c) (h : yRest P C ops base m s = some (ob, t)) (ho : all ob)
    (hK : ∀ a w ρ, Den w0 wr ρ t a w → Q .normal a w) {a : Act} {w : World} {ρ : Env} (hd : Den w0 wr ρ s a w) : wpOpsIn (FW r) nn P ops Q (List.range' (m + 1) (ops.size - (m + 1))) a w := by
  have := wpOpsIn_append (P := P) (r := r) (n := nn) (Q := Q) (K := fun a w => Q .normal a w) hn (l2 := []) (fun a w h => h) (List.range' (m + 1) (ops.size - (m + 1))) a w (seq_ok hC (fun a w ρ hd => ⟨rfl, hK a w ρ hd⟩) _ _ _ _ _ _ _ h ho hd)
  rwa [List.append_nil] at this
/-- **A region with a call of yield in it**: the operations ahead of the call, the round, the operations behind it. -/
theorem At.yield {P : Program} {α : Type} {J Jx : List α → World → Prop} {B N nn l rid m : Nat} {encs : α → Array Value} {Kp : World → World → Prop} {W0 : World} {e : Env} {n : Nat} {gl : List Nat} {k : List Item} {ops : Array Oper} {Q : Exit → Act → World → Prop} {tm tmT tmF : List (Nat × TV)} {rows rowsT : List (Nat × Row)} {o1 o2 o3 : List Prop} {vs : List TV}
    (hm : P.follows .mixedOrders = true) (pre : List α) (x : α) (cs : List (Nat × Hint)) (hC : allC P cs) (kr : List Nat)
    (hJa : AbidesFrom B J) (hJ : J pre W0) (hlen : pre.length < N)
    (hY : ∀ pre x W1, J pre W1 → pre.length < N → YieldAt (FW none) (nn - 1) P l (encs x) W1 fun e W' => (e = .returned (.bool true) ∧ J (pre ++ [x]) W' ∧ Kp W1 W') ∨ (e = .returned (.bool false) ∧ Jx (pre ++ [x]) W'))
    (hKp : ∀ W W', Kp W W' → ∀ r ∈ kr, W'.heap[(e r).1]? = W.heap[(e r).1]?)
    (hT : yield1 P (findC cs) ops (1000 + rid * 1000) m kr (mkSt n tm rows gl) true (tmT.map (·.1)) (rowsT.map (·.1)) = some (o1, l, vs, o2, tmT.map (fun p => some p.2), rowsT.map fun p => some p.2))
    (hF : yield1 P (findC cs) ops (1000 + rid * 1000) m [] (mkSt n tm rows gl) false (tmF.map (·.1)) [] = some (o1, l, vs, o3, tmF.map (fun p => some p.2), []))
    (ho : all (o1 ++ o2 ++ o3)) (hx : ∀ ρ : Env, (∀ r, r < 1000 → ρ r = e r) → (vs.map (TV.val ρ)).toArray = encs x) (hg : gl.all (fun g => Nat.ble (g + 1) 500) = true) (hs : (noDef ops && (Nat.ble (m + 1) ops.size && (kr.all (fun r => Nat.ble (r + 1) 1000) && (idsOk tmT rowsT gl && idsOk tmF [] gl)))) = true)
    (hKT : ∀ W', J (pre ++ [x]) W' → At P W' ⟨[], e, []⟩ n gl k Q tmT rowsT none []) (hKF : ∀ W', Jx (pre ++ [x]) W' → At P W' ⟨[], e, []⟩ n gl k Q tmF [] none []) :
    At P W0 ⟨[], e, []⟩ n gl (.code (.region rid ops false) :: k) Q tm rows none [] := by
  intro a w ρ hd
  simp only [Bool.and_eq_true] at hs
  obtain ⟨hnd, hms, hkr, hiT, hiF⟩ := hs
  have hms := Nat.le_of_ble_eq_true hms
  have hC2 := findC_ok hC
  obtain ⟨ho, ho3⟩ := all_append.1 ho
  obtain ⟨ho1, ho2⟩ := all_append.1 ho
  unfold yield1 at hT hF
  split at hT
  · rename_i p1 s1 hr1
    rw [hr1] at hF
    simp only at hF
    split at hT
    · rename_i d l2 vs2 hy
      rw [hy] at hF
      simp only at hF
      split at hT
      · rename_i p2 s2 hr2
        split at hF
        · rename_i p3 s3 hr3
          simp only [Option.some.injEq, Prod.mk.injEq] at hT hF
          obtain ⟨rfl, rfl, rfl, rfl, eT1, eT2⟩ := hT
          obtain ⟨_, _, _, rfl, eF1, _⟩ := hF
          obtain ⟨k1, k2⟩ := runL_keep hr1
          refine KX.code (n := nn) (K := fun a w => KX P none k Q a w) (wpIn_region ?_) fun a w h => h
          rw [show List.range ops.size = List.range' 0 m ++ (m :: List.range' (m + 1) (ops.size - (m + 1))) by
            rw [List.range_eq_range', ← List.range'_succ]
            have := List.range'_append_1 (s := 0) (m := m) (n := ops.size - (m + 1) + 1)
            rw [Nat.zero_add] at this
            rw [this]
            congr 1
            omega]
          refine wpOpsIn_append (K := fun a w => ∃ ρ, Den W0 ⟨[], e, []⟩ ρ s1 a w) hnd (fun a w ⟨ρ, hd⟩ => ?_) _ a w (seq_ok hC2 (fun a w ρ hd => ⟨rfl, ρ, hd⟩) _ _ _ _ _ _ _ hr1 ho1 hd)
          rw [wpOpsIn_cons]
          have hJw : J pre w := abides_fr hJa hJ hd.fr
          have hYw := hY pre x w hJw hlen
          rw [← hx ρ (fun r hr => hd.e0 r (.inl hr))] at hYw
          obtain ⟨fn, tmps, assign, body, g1, g2⟩ := hYw
          have hd1 : d < s1.n := yCall_lt hy
          refine (yCall_ok (n := nn) hy hd ⟨fn, tmps, assign, body, g1, RoundIn.mono g2 ?_⟩).2
          rintro en w' (⟨rfl, h1, h2⟩ | ⟨rfl, h1⟩)
          · refine ⟨true, rfl, ?_⟩
            have hd2 := den_aft (b := true) hd k1.2 hd1 hkr (hKp _ _ h2)
            refine rest_ok hnd hC2 hr2 ho2 (fun a w ρ hd3 => ⟨rfl, ?_⟩) hd2
            obtain ⟨j1, j2⟩ := runL_keep hr2
            have := den_mk (gl := gl) hd3 eT1 eT2 (fun g hgm => ⟨Nat.le_of_ble_eq_true (List.all_eq_true.1 hg g hgm), j2 _ (k2 _ (hasN_iff.2 (List.mem_append.2 (.inr (List.mem_map.2 ⟨g, hgm, rfl⟩)))))⟩) hiT rfl
            rw [j1.1, j1.2] at this
            have e1 : (aftY kr d true s1).n = n := k1.1
            have e2 : (aftY kr d true s1).mks = [] := k1.2
            rw [e1, e2] at this
            exact hKT w' h1 a w ρ this
          · refine ⟨false, rfl, ?_⟩
            have hd2 := den_aft (w' := w') (b := false) (kr := []) hd k1.2 hd1 rfl (fun r hr => by cases hr)
            refine rest_ok hnd hC2 hr3 ho3 (fun a w ρ hd3 => ⟨rfl, ?_⟩) hd2
            obtain ⟨j1, j2⟩ := runL_keep hr3
            have := den_mk (gl := gl) (rows := []) hd3 eF1 rfl (fun g hgm => ⟨Nat.le_of_ble_eq_true (List.all_eq_true.1 hg g hgm), j2 _ (k2 _ (hasN_iff.2 (List.mem_append.2 (.inr (List.mem_map.2 ⟨g, hgm, rfl⟩)))))⟩) hiF rfl
            rw [j1.1, j1.2] at this
            have e1 : (aftY [] d false s1).n = n := k1.1
            have e2 : (aftY [] d false s1).mks = [] := k1.2
            rw [e1, e2] at this
            exact hKF w' h1 a w ρ this
        · cases hF
      · cases hT
    · cases hT
  · cases hT
end Go.Proofs.YtgbaaiedpiiepaaDoor.E
/- Places of a function's code by their numbers; the rules for rounds at places. No condition. -/
namespace Go.Proofs.YtgbaaiedpiiepaaDoor.E
open Go Go.RowKit
set_option linter.unusedVariables false
set_option linter.unusedSimpArgs false

/-- Regions by their numbers, as places; a round's code ends where the round does. -/
def regsIn : Code → List Item → List (Nat × List Item)
  | .seq x y, k => regsIn x (.code y :: k) ++ regsIn y k
  | .block id x, k => regsIn x (.inBlock id :: k)
  | .scope x, k => regsIn x (.inScope x :: k)
  | .cond _ x y, k => regsIn x k ++ regsIn y k
  | .loop x, k => regsIn x (.inLoop x :: k)
  | .region id ops d, k => [(id, .code (.region id ops d) :: k)]
  | .rangeFunc _ _ _ b, _ => regsIn b []
  | _, _ => []
def findI : List (Nat × List Item) → Nat → List Item
  | [], _ => []
  | p :: l, r => bif Nat.beq p.1 r then p.2 else findI l r
/-- Region id of a function, as a place. -/
def rp (f : Func) (id : Nat) : List Item := findI (regsIn (bodyOf f) []) id
/-- Ranges over functions, as places. -/
def rngsIn : Code → List Item → List (List Item)
  | .seq x y, k => rngsIn x (.code y :: k) ++ rngsIn y k
  | .block id x, k => rngsIn x (.inBlock id :: k)
  | .scope x, k => rngsIn x (.inScope x :: k)
  | .cond _ x y, k => rngsIn x k ++ rngsIn y k
  | .loop x, k => rngsIn x (.inLoop x :: k)
  | .rangeFunc g ps az b, k => (.code (.rangeFunc g ps az b) :: k) :: rngsIn b []
  | _, _ => []
/-- The j-th range of a function, as a place. -/
def rg (f : Func) (j : Nat) : List Item := (rngsIn (bodyOf f) []).getD j []

def hdOps : List Item → Array Oper
  | .code (.region _ ops _) :: _ => ops
  | _ => #[]
def hdRid : List Item → Nat
  | .code (.region id _ _) :: _ => id
  | _ => 0
def isReg : List Item → Bool
  | .code (.region _ _ false) :: _ => true
  | _ => false
theorem isReg_ok : ∀ {t : List Item}, isReg t = true → t = .code (.region (hdRid t) (hdOps t) false) :: t.tail
  | .code (.region id ops false) :: k, _ => rfl
def hdG : List Item → Operand
  | .code (.rangeFunc g _ _ _) :: _ => g
  | _ => .func 0
def hdPs : List Item → Array Tmp
  | .code (.rangeFunc _ ps _ _) :: _ => ps
  | _ => #[]
def hdAsg : List Item → Code
  | .code (.rangeFunc _ _ a _) :: _ => a
  | _ => .skip
/-- A round's code. -/
def hdBody : List Item → Code
  | .code (.rangeFunc _ _ _ b) :: _ => b
  | _ => .skip
def isRng : List Item → Bool
  | .code (.rangeFunc _ _ a _) :: _ => match asg a with
    | some _ => true
    | none => false
  | _ => false
theorem isRng_ok : ∀ {t : List Item}, isRng t = true → t = .code (.rangeFunc (hdG t) (hdPs t) (hdAsg t) (hdBody t)) :: t.tail ∧ ∃ al, asg (hdAsg t) = some al
  | .code (.rangeFunc g ps a b) :: k, h => by
    unfold isRng at h
    refine ⟨rfl, ?_⟩
    simp only at h
    cases ha : asg a with
    | none => rw [ha] at h; cases h
    | some al => exact ⟨al, ha⟩
def alOf (t : List Item) : List (Tmp × Operand) := match asg (hdAsg t) with
  | some l => l
  | none => []

/-- A region with a call of yield in it, at a place. -/
theorem At.yieldAt {P : Program} {α : Type} {J Jx : List α → World → Prop} {B N nn l : Nat} {encs : α → Array Value} {Kp : World → World → Prop} {W0 : World} {e : Env} {n : Nat} {gl : List Nat} {todo : List Item} {Q : Exit → Act → World → Prop} {tm tmT tmF : List (Nat × TV)} {rows rowsT : List (Nat × Row)} {o1 o2 o3 : List Prop} {vs : List TV}
    (hm : P.follows .mixedOrders = true) (m : Nat) (pre : List α) (x : α) (cs : List (Nat × Hint)) (hC : allC P cs) (kr : List Nat)
    (hJa : AbidesFrom B J) (hJ : J pre W0) (hlen : pre.length < N)
    (hY : ∀ pre x W1, J pre W1 → pre.length < N → YieldAt (FW none) (nn - 1) P l (encs x) W1 fun e W' => (e = .returned (.bool true) ∧ J (pre ++ [x]) W' ∧ Kp W1 W') ∨ (e = .returned (.bool false) ∧ Jx (pre ++ [x]) W'))
    (hKp : ∀ W W', Kp W W' → ∀ r ∈ kr, W'.heap[(e r).1]? = W.heap[(e r).1]?) (hr : isReg todo = true)
    (hT : yield1 P (findC cs) (hdOps todo) (1000 + hdRid todo * 1000) m kr (mkSt n tm rows gl) true (tmT.map (·.1)) (rowsT.map (·.1)) = some (o1, l, vs, o2, tmT.map (fun p => some p.2), rowsT.map fun p => some p.2))
    (hF : yield1 P (findC cs) (hdOps todo) (1000 + hdRid todo * 1000) m [] (mkSt n tm rows gl) false (tmF.map (·.1)) [] = some (o1, l, vs, o3, tmF.map (fun p => some p.2), []))
    (ho : all (o1 ++ o2 ++ o3)) (hx : ∀ ρ : Env, (∀ r, r < 1000 → ρ r = e r) → (vs.map (TV.val ρ)).toArray = encs x) (hg : gl.all (fun g => Nat.ble (g + 1) 500) = true) (hs : (noDef (hdOps todo) && (Nat.ble (m + 1) (hdOps todo).size && (kr.all (fun r => Nat.ble (r + 1) 1000) && (idsOk tmT rowsT gl && idsOk tmF [] gl)))) = true)
    (hKT : ∀ W', J (pre ++ [x]) W' → At P W' ⟨[], e, []⟩ n gl todo.tail Q tmT rowsT none []) (hKF : ∀ W', Jx (pre ++ [x]) W' → At P W' ⟨[], e, []⟩ n gl todo.tail Q tmF [] none []) :
    At P W0 ⟨[], e, []⟩ n gl todo Q tm rows none [] := by
  rw [isReg_ok hr]
  exact At.yield hm pre x cs hC kr hJa hJ hlen hY hKp hT hF ho hx hg hs hKT hKF
/-- A range over a function, at a place. -/
theorem At.rangeAt {P : Program} {w0 : World} {wr : Bs} {n : Nat} {gl : List Nat} {todo : List Item} {Q : Exit → Act → World → Prop} {tm : List (Nat × TV)} {rows : List (Nat × Row)} {mk : List Nat} {α : Type} {gf : FuncId} {rs : List Nat}
    (K kr : List Nat) (vx : α → List TV) {S Sp : List α → Prop} {N : Nat} (rowsI : List α → List (Nat × Row)) (rowsX : Exit → List α → Option (List (Nat × Row))) (tmB : α → List (Nat × TV)) (hr : isRng todo = true)
    (hg : evalO (mkSt n tm rows gl mk) (hdG todo) = some (.s (.lf (.clo gf rs)))) (he : Enters P gf)
    (hseq : ∀ (ρ : Env) (w : World), (∀ r row, findR rows r = some row → RowAt ρ r row w) → SeqStopsK (FW none) 5 P gf (rs.map fun r => Value.pointer (some ⟨(ρ r).1, (ρ r).2, none⟩)).toArray (fun x => ((vx x).map (TV.val ρ)).toArray) (fun W W' => ∀ r ∈ kr, W'.heap[(ρ r).1]? = W.heap[(ρ r).1]?) S Sp N w)
    (h0 : rowsI [] = rows) (hkeys : ∀ xs, (rowsI xs).map (·.1) = rows.map (·.1)) (hkeysX : ∀ e xs rx, rowsX e xs = some rx → rx.map (·.1) = rows.map (·.1) ∧ idsOk tm rx gl = true)
    (hids : ∀ xs, idsOk tm (rowsI xs) gl = true) (hnd : nodupB (rows.map (·.1)) = true) (hK : rngOk tm rows gl wr.k K kr = true) (hkr : ∀ xs, ronly (rowsI xs) kr = true)
    (hvx : ∀ x, (vx x).length = (hdPs todo).size ∧ okL (vx x) ∧ (vx x).all (fun v => v.ids.all (hasN K)) = true)
    (hB : ∀ x pre, beg (hdPs todo) (alOf todo) (vx x) (mkSt n tm (rowsI pre) gl) ((tmB x).map (·.1)) = some ((tmB x).map fun p => some p.2))
    (hbody : ∀ (l : Nat) (pre : List α) (x : α) (W : World) (σ : Env), pre.length < N → (∃ r, W.heap[l]? = some (.loop r)) → At P W ⟨wlOf σ (rowsI pre), σ, K⟩ n gl [.code (hdBody todo)] (RoundQ W ⟨wlOf σ (rowsI pre), σ, K⟩ (nxt rowsI rowsX (pre ++ [x]))) (tmB x) (rowsI pre) (some l) [])
    (hdone : ∀ D xs, S xs → At P w0 wr n gl todo.tail Q tm (rowsI xs) none (D :: mk))
    (hstop : ∀ D e pre rx, Sp pre → rowsX e pre = some rx → match e with
      | .ret => ∀ a w ρ, Den w0 wr ρ (mkSt n tm rx gl (D :: mk)) a w → Q .ret a w
      | .exit id => ∃ k', exitTo id todo.tail = some k' ∧ At P w0 wr n gl k' Q tm rx none (D :: mk)
      | _ => False) :
    At P w0 wr n gl todo Q tm rows none mk := by
  obtain ⟨e1, al, e2⟩ := isRng_ok hr
  have e3 : alOf todo = al := by unfold alOf; rw [e2]
  rw [e3] at hB
  rw [e1]
  exact At.range K kr vx rowsI rowsX tmB hg he e2 hseq h0 hkeys hkeysX hids hnd hK hkr hvx hB hbody hdone hstop
/-- A range over a function within a round, at a place. -/
theorem At.rangeNAt {l₀ : Nat} {P : Program} {w0 : World} {wr : Bs} {n : Nat} {gl : List Nat} {todo : List Item} {Q : Exit → Act → World → Prop} {tm : List (Nat × TV)} {rows : List (Nat × Row)} {α : Type} {gf : FuncId} {rs : List Nat}
    (K kr : List Nat) (vx : α → List TV) {S Sp : List α → Prop} {N : Nat} (rowsI : List α → List (Nat × Row)) (rowsX : Exit → List α → Option (List (Nat × Row))) (tmB : α → List (Nat × TV)) (hr : isRng todo = true)
    (hg : evalO (mkSt n tm rows gl) (hdG todo) = some (.s (.lf (.clo gf rs)))) (he : Enters P gf)
    (hseq : ∀ (ρ : Env) (w : World), (∀ r row, findR rows r = some row → RowAt ρ r row w) → SeqStopsK (FW none) 5 P gf (rs.map fun r => Value.pointer (some ⟨(ρ r).1, (ρ r).2, none⟩)).toArray (fun x => ((vx x).map (TV.val ρ)).toArray) (fun W W' => ∀ r ∈ kr, W'.heap[(ρ r).1]? = W.heap[(ρ r).1]?) S Sp N w)
    (h0 : rowsI [] = rows) (hkeys : ∀ xs, (rowsI xs).map (·.1) = rows.map (·.1)) (hkeysX : ∀ e xs rx, rowsX e xs = some rx → rx.map (·.1) = rows.map (·.1) ∧ idsOk tm rx gl = true)
    (hids : ∀ xs, idsOk tm (rowsI xs) gl = true) (hnd : nodupB (rows.map (·.1)) = true) (hK : rngOk tm rows gl wr.k K kr = true) (hkr : ∀ xs, ronly (rowsI xs) kr = true)
    (hvx : ∀ x, (vx x).length = (hdPs todo).size ∧ okL (vx x) ∧ (vx x).all (fun v => v.ids.all (hasN K)) = true)
    (hB : ∀ x pre, beg (hdPs todo) (alOf todo) (vx x) (mkSt n tm (rowsI pre) gl) ((tmB x).map (·.1)) = some ((tmB x).map fun p => some p.2))
    (hbody : ∀ (l : Nat) (pre : List α) (x : α) (W : World) (σ : Env), pre.length < N → (∃ r, W.heap[l]? = some (.loop r)) → At P W ⟨wlOf σ (rowsI pre), σ, K⟩ n gl [.code (hdBody todo)] (RoundQ W ⟨wlOf σ (rowsI pre), σ, K⟩ (nxt rowsI rowsX (pre ++ [x]))) (tmB x) (rowsI pre) (some l) [])
    (hl₀ : ∃ r, w0.heap[l₀]? = some (.loop r))
    (hdone : ∀ xs, S xs → At P w0 wr n gl todo.tail Q tm (rowsI xs) (some l₀) [])
    (hstop : ∀ e pre rx, Sp pre → rowsX e pre = some rx → match e with
      | .ret => ∀ a w ρ, Den w0 wr ρ (mkSt n tm rx gl) a w → Q .ret a w
      | .exit id => (∃ k', exitTo id todo.tail = some k' ∧ At P w0 wr n gl k' Q tm rx (some l₀) []) ∨ (exitTo id todo.tail = none ∧ ∀ a w ρ, Den w0 wr ρ (mkSt n tm rx gl) a w → Q (.exit id) a w)
      | _ => False) :
    At P w0 wr n gl todo Q tm rows (some l₀) [] := by
  obtain ⟨e1, al, e2⟩ := isRng_ok hr
  have e3 : alOf todo = al := by unfold alOf; rw [e2]
  rw [e3] at hB
  rw [e1]
  exact At.rangeN K kr vx rowsI rowsX tmB hg he e2 hseq h0 hkeys hkeysX hids hnd hK hkr hvx hB hbody hl₀ hdone hstop
/-- No round leaves the loop but by its end. -/
theorem At.stop0 {α : Type} {P : Program} {w0 : World} {wr : Bs} {n : Nat} {gl : List Nat} {k : List Item} {Q : Exit → Act → World → Prop} {tm : List (Nat × TV)} {mk : List Nat} {Sp : List α → Prop} : ∀ (D : Nat) (e : Exit) (pre : List α) (rx : List (Nat × Row)), Sp pre → (fun (_ : Exit) (_ : List α) => (none : Option (List (Nat × Row)))) e pre = some rx → match e with
      | .ret => ∀ a w ρ, Den w0 wr ρ (mkSt n tm rx gl (D :: mk)) a w → Q .ret a w
      | .exit id => ∃ k', exitTo id k = some k' ∧ At P w0 wr n gl k' Q tm rx none (D :: mk)
      | _ => False := fun _ _ _ _ _ h => by cases h
/-- Rows of old that are read alone; no globals. -/
theorem init_ro1 {w : World} {ρ : Env} {args : List TV} {rows : List (Nat × Row)} (hok : okL args) (hb : initB args rows [] = true) (hl : rows.all (fun p => Nat.ble (p.1 + 1) 500) = true) (hr : rowsOk ρ w rows) : Init w [] ρ args rows [] := by
  rw [initB, Bool.and_eq_true, List.all_eq_true, List.all_eq_true] at hb
  refine ⟨fun x hx => ⟨okL_mem hok x hx, fun r hr2 => List.all_eq_true.1 (hb.1 x hx) r hr2⟩, fun p hp => ?_, fun p hp q hq hne hw => ?_, fun g _ hg => ?_⟩
  · have h2 := hb.2 p hp
    rw [Bool.and_eq_true, List.all_eq_true] at h2
    refine ⟨(rowsOk_mem hr p hp).1, (rowsOk_mem hr p hp).2, h2.1, fun hw => ?_⟩
    rw [hw] at h2; cases h2.2
  · have h2 := hb.2 p hp
    rw [hw, Bool.and_eq_true] at h2
    cases h2.2
  · have := hasN_iff.1 hg
    simp only [List.map_nil, List.append_nil, List.mem_map] at this
    obtain ⟨p, hp, he⟩ := this
    have := Nat.le_of_ble_eq_true (List.all_eq_true.1 hl p hp)
    omega
/-- No round within a round leaves the loop but by its end. -/
theorem At.stop0N {α : Type} {P : Program} {w0 : World} {wr : Bs} {n l₀ : Nat} {gl : List Nat} {k : List Item} {Q : Exit → Act → World → Prop} {tm : List (Nat × TV)} {Sp : List α → Prop} : ∀ (e : Exit) (pre : List α) (rx : List (Nat × Row)), Sp pre → (fun (_ : Exit) (_ : List α) => (none : Option (List (Nat × Row)))) e pre = some rx → match e with
      | .ret => ∀ a w ρ, Den w0 wr ρ (mkSt n tm rx gl) a w → Q .ret a w
      | .exit id => (∃ k', exitTo id k = some k' ∧ At P w0 wr n gl k' Q tm rx (some l₀) []) ∨ (exitTo id k = none ∧ ∀ a w ρ, Den w0 wr ρ (mkSt n tm rx gl) a w → Q (.exit id) a w)
      | _ => False := fun _ _ _ _ h => by cases h
/-- The function's end out of a round: results. -/
theorem ret_ok {P : Program} {w0 : World} {wr : Bs} {fn : Func} {n : Nat} {gl mk : List Nat} {tm : List (Nat × TV)} {rows : List (Nat × Row)} {ob : List Prop} {x : TV} {R : Ending → World → Prop} (h : resT P (mkSt n tm rows gl mk) fn.results.toList = some (ob, x)) (ho : all ob) (hR : ∀ ρ w, Fr w0 wr.l w → x.ok → R (.returned (x.val ρ)) w) :
    ∀ a w ρ, Den w0 wr ρ (mkSt n tm rows gl mk) a w → EndX P fn R .ret a w :=
  fun a w ρ hd => ⟨.inr rfl, end_ok hd h ho fun w' hd' hx => hR ρ w' hd'.fr hx⟩
/-- An iterator's contract, by runs of its code. -/
theorem seq_ok2 {P : Program} {α : Type} {f : FuncId} {fn : Func} {c : Code} {lb : Array Value} {encs : α → Array Value} {Kp : World → World → Prop} {S Sp : List α → Prop} {N : Nat} {w : World} {e : Env} {args : List TV} {rows : List (Nat × Row)} {gl : List Nat}
    (hf : P.funcs[f]? = some fn) (hb : fn.body = some c) (hn : Nat.ble (args.length + 1) fn.ntmps = true) (hav : lb = (args.map (TV.val e)).toArray)
    (hi : ∀ W, Below w.heap.size w W → ∀ l, Init W [] e (.v (.func (.yield l) #[] #[]) :: args) rows gl)
    (h : ∀ (l : Nat) (J Jx : List α → World → Prop) (W : World), AbidesFrom W.heap.size J → AbidesFrom W.heap.size Jx →
      (∀ pre x W1, J pre W1 → pre.length < N → YieldAt (FW none) (5 - 1) P l (encs x) W1 fun e W' => (e = .returned (.bool true) ∧ J (pre ++ [x]) W' ∧ Kp W1 W') ∨ (e = .returned (.bool false) ∧ Jx (pre ++ [x]) W')) →
      J [] W → At P W ⟨[], e, []⟩ fn.ntmps gl [.code c] (EndX P fn fun e W' => (∃ v, e = .returned v) ∧ ((∃ xs, S xs ∧ J xs W') ∨ (∃ pre, Sp pre ∧ Jx pre W'))) (numT 0 (.v (.func (.yield l) #[] #[]) :: args)) rows none []) :
    SeqStopsK (FW none) 5 P f lb encs Kp S Sp N w := by
  intro l J Jx W hW hJ hJx hY h0
  subst hav
  refine callsIn_FW (At.calls (args := .v (.func (.yield l) #[] #[]) :: args) (wr := []) (ρ := e) hf hb hn (hi W hW l) ?_ (h l J Jx W hJ hJx hY h0))
  simp [TV.val, SV.val, Lf.val]
end Go.Proofs.YtgbaaiedpiiepaaDoor.E
/- Of the program: whether nodes may be a tree, node by node, each against the one ahead of it. Its conditions: lengths that fit. -/
namespace Go.Proofs.YtgbaaiedpiiepaaDoor
open Go.RowKit Go.Shelf
set_option linter.unusedVariables false
set_option linter.unusedSimpArgs false
abbrev stv (l : List UInt8) : Value := strV l
def nd0 : Nd := ⟨[], 0, []⟩
def ndf (l : List Nd) (i : Nat) : Nd := l.getD i nd0
theorem ndf_at (l : List Nd) (i : Nat) (h : i < l.length) : ndf l i = l[i] := by simp [ndf, h]
open E in
abbrev ndRow (nd : Nat → Nd) (n : Nat) : Row := ⟨[.fnc (fun i => [stv (nd i).path, .int .i64 (nd i).kind, stv (nd i).data]) 3 n], false, none⟩
open E in
abbrev ndSl (n cap : Nat) : TV := .s (.lf (.sl 0 0 0 3 n (some cap)))
open E in
theorem ndRow_ok (nd : Nat → Nd) (n : Nat) : pok (ndRow nd n).ps := by
  intro p hp
  simp at hp
  subst hp
  exact fun i _ => ⟨rfl, fun v hv => by simp at hv; rcases hv with rfl | rfl | rfl <;> rfl⟩
theorem flat3 (f : Nat → List Value) (hf : ∀ i, (f i).length = 3) : ∀ (n i j : Nat), i < n → j < 3 → ((List.range n).flatMap f)[i * 3 + j]? = (f i)[j]? := by
  intro n
  induction n with
  | zero => intro i j h; omega
  | succ n ih =>
    intro i j h hj
    rw [List.range_succ, List.flatMap_append]
    have hl : ((List.range n).flatMap f).length = n * 3 := by
      clear ih h
      induction n with
      | zero => rfl
      | succ n ih => rw [List.range_succ, List.flatMap_append, List.length_append, ih]; simp [hf]; omega
    by_cases e : i < n
    · rw [List.getElem?_append_left (by omega)]
      exact ih i j e hj
    · obtain rfl : i = n := by omega
      rw [List.getElem?_append_right (by omega), hl]
      simp
theorem flat3_len (f : Nat → List Value) (hf : ∀ i, (f i).length = 3) (n : Nat) : ((List.range n).flatMap f).length = n * 3 := by
  induction n with
  | zero => rfl
  | succ n ih => rw [List.range_succ, List.flatMap_append, List.length_append, ih]; simp [hf]; omega
theorem cells_of_cell {W : World} {b o : Nat} {v : Value} (h : W.cell? ⟨b, o, none⟩ = some v) : ∃ cur t fz, W.heap[b]? = some (.cells cur t fz) := by
  unfold World.cell? at h
  simp only at h
  split at h
  · rename_i cur t fz h2; exact ⟨cur, t, fz, h2⟩
  · cases h
open E in
theorem nodes_row {W : World} {b o : Nat} {l : List Nd} (h : Nodes W b o l) (h0 : 0 < l.length) (c : Nat) : RowAt (fun _ => ⟨b, o, c⟩) 0 (ndRow (ndf l) l.length) W := by
  refine ⟨h.1, fun j v hv => ⟨?_, fun hw => by cases hw⟩, (fun e k hc => by cases hc), cells_of_cell (h.2 0 h0).1⟩
  have hv2 : ((List.range l.length).flatMap fun i => [stv (ndf l i).path, .int .i64 (ndf l i).kind, stv (ndf l i).data])[j]? = some v := by
    simpa [lst, Pc.arrV] using hv
  have hj : j < l.length * 3 := by
    have := (List.getElem?_eq_some_iff.1 hv2).1
    rwa [flat3_len _ (fun _ => rfl)] at this
  have hq : j = j / 3 * 3 + j % 3 := by omega
  have hi : j / 3 < l.length := by omega
  rw [hq, flat3 _ (fun _ => rfl) _ _ _ hi (by omega), ndf_at l _ hi] at hv2
  obtain ⟨q1, q2, q3⟩ := h.2 (j / 3) hi
  have h3 : j % 3 = 0 ∨ j % 3 = 1 ∨ j % 3 = 2 := by omega
  show W.cell? ⟨b, o + j, none⟩ = _
  rcases h3 with e | e | e
  · rw [e] at hv2; rw [show o + j = o + j / 3 * 3 by omega, q1]; exact hv2
  · rw [e] at hv2; rw [show o + j = o + j / 3 * 3 + 1 by omega, q2]; exact hv2
  · rw [e] at hv2; rw [show o + j = o + j / 3 * 3 + 2 by omega, q3]; exact hv2
/-- Whether a node may stand where it does. -/
def okAt (nd : Nat → Nd) : Nat → Bool
  | 0 => mayDataL (nd 0)
  | j + 1 => mayDataL (nd (j + 1)) && (mayPathL (nd (j + 1)).path && followsL (nd j) (nd (j + 1)))
def mayP (nd : Nat → Nd) (n : Nat) : Bool := decide (n ≤ 256) && ((nd 0).path == [] && (List.range n).all (okAt nd))
theorem pmay_nil (a : Option Addr) (cap : Nat) (w : World) : Calls Tryd.prog 14 #[.slice a 0 cap] w fun e w' => e = .returned (.bool false) ∧ w' = w := by
  go_enter Tryd.func14, Tryd.ntmps14
  go_wp2_with fail
  go_ret
  exact ⟨rfl, rfl⟩
section
open E
theorem ent32 : Enters Tryd.prog 32 := enters_of Tryd.func32 (by kernel_rfl) rfl
theorem ent33 : Enters Tryd.prog 33 := enters_of Tryd.func33 (by kernel_rfl) rfl
theorem ent34 : Enters Tryd.prog 34 := enters_of Tryd.func34 (by kernel_rfl) rfl
abbrev hHold (c : Nd) (b : Bool) : Hint := pc 32 #[.agg (ndV c)] (.v (.bool b))
abbrev hPath (p : List UInt8) (b : Bool) : Hint := pc 33 #[stv p] (.v (.bool b))
abbrev hFol (c d : Nd) (b : Bool) : Hint := pc 34 #[.agg (ndV c), .agg (ndV d)] (.v (.bool b))
theorem hHold_ok (id : Nat) (c : Nd) (b : Bool) (hc : c.data.length ≤ 1000000) (hb : mayDataL c = b) : HintOk Tryd.prog id (hHold c b) := pc_ok ent32 (v := .bool b) rfl (fun _ => rfl) fun w => by rw [← hb]; exact mayHold_any c (by omega) w
theorem hPath_ok (id : Nat) (p : List UInt8) (b : Bool) (hc : p.length ≤ 1000000) (hb : mayPathL p = b) : HintOk Tryd.prog id (hPath p b) := pc_ok ent33 (v := .bool b) rfl (fun _ => rfl) fun w => by rw [← hb]; exact mayPath_any p hc w
theorem hFol_ok (id : Nat) (c d : Nd) (b : Bool) (hc : c.path.length ≤ 1000000) (hd : d.path.length ≤ 1000000) (hb : followsL c d = b) : HintOk Tryd.prog id (hFol c d b) := pc_ok ent34 (v := .bool b) rfl (fun _ => rfl) fun w => by rw [← hb]; exact follows_any c d hc hd w
abbrev tmM (n cap k : Nat) : List (Nat × TV) := [(0, ndSl n cap), (20, ndSl n cap), (21, .int .i64 n), (22, .int .i64 k)]
set_option maxRecDepth 100000 in
set_option maxHeartbeats 1000000 in
theorem pmay_rows (nd : Nat → Nd) (n cap : Nat) (hn : 0 < n) (hn2 : n ≤ 1000000) (hp : ∀ i, i < n → (nd i).path.length ≤ 1000000) (hd : ∀ i, i < n → (nd i).data.length ≤ 1000000) (ρ : Env) (w : World) (hr : RowAt ρ 0 (ndRow nd n) w) :
    Calls Tryd.prog 14 #[(ndSl n cap).val ρ] w fun e w' => e = .returned (.bool (mayP nd n)) ∧ Below w.heap.size w w' := by
  refine At.calls (args := [ndSl n cap]) (rows := [(0, ndRow nd n)]) (gl := []) (wr := []) (ρ := ρ) Tryd.func14 rfl rfl (init_ro1 ⟨trivial, trivial⟩ rfl rfl ⟨⟨hr, ndRow_ok nd n⟩, trivial⟩) rfl ?_
  have hloop : ∀ k, (k ≤ n ∧ (List.range k).all (okAt nd) = true) → At Tryd.prog w ⟨[], ρ, []⟩ 48 [] (lp Tryd.f14 0) (EndX Tryd.prog Tryd.f14 fun e w' => e = .returned (.bool ((List.range n).all (okAt nd))) ∧ Below w.heap.size w w') (tmM n cap k) [(0, ndRow nd n)] := by
    refine At.loop (tmM n cap) (fun _ => [(0, ndRow nd n)]) (fun k => k ≤ n ∧ (List.range k).all (okAt nd) = true) (fun k => n - k) fun k hk ih => ?_
    obtain ⟨hk, hall⟩ := hk
    by_cases h : k < n
    · have bad : okAt nd k = false → (List.range n).all (okAt nd) = false := fun h2 => by
        rw [List.all_eq_false]; exact ⟨k, List.mem_range.2 h, by rw [h2]; decide⟩
      have good : okAt nd k = true → (List.range (k + 1)).all (okAt nd) = true := fun h2 => by
        rw [List.range_succ, List.all_append, hall]; simp [h2]
      cases hm : mayDataL (nd k) with
      | false =>
        refine At.fin rfl [(7001, _)] ⟨hHold_ok _ (nd k) false (hd k h) hm, trivial⟩ [.y, .d] (x := .v (.bool false)) (ob := [decide ((k : Int) < (n : Int)) = true, 0 ≤ (k : Int) ∧ (k : Int) < (n : Int), k < n] ++ qL (hHold (nd k) false)) (by kernel_rfl) ?_ fun ρ w' hf _ => ⟨?_, hf.below⟩
        · exact all_append.2 ⟨⟨decide_eq_true (by omega), by omega, h, trivial⟩, all_qL _⟩
        · rw [bad (by cases k <;> simp [okAt, hm])]; rfl
      | true =>
        cases k with
        | zero =>
          refine At.run rfl [(7001, _), (2009001, .val (.v (.bool false)))] ⟨hHold_ok _ (nd 0) true (hd 0 h) hm, trivial, trivial⟩ [.y, .d, .d] (tm2 := tmM n cap (0 + 1)) (rows2 := [(0, ndRow nd n)]) (td := lp Tryd.f14 0)
            (ob := [decide (((0 : Nat) : Int) < (n : Int)) = true, 0 ≤ ((0 : Nat) : Int) ∧ ((0 : Nat) : Int) < (n : Int), 0 < n] ++ qL (hHold (nd 0) true) ++ [TV.v (.bool (decide (((0 : Nat) : Int) > 0))) = TV.v (.bool false), inI (((0 : Nat) : Int) + 1)]) (by kernel_rfl) ?_ rfl rfl (by intro h; cases h) (ih 1 ⟨h, good (by simp [okAt, hm])⟩ (by omega))
          exact all_append.2 ⟨all_append.2 ⟨⟨decide_eq_true (by omega), by omega, h, trivial⟩, all_qL _⟩, ⟨rfl, ⟨by omega, by omega⟩, trivial⟩⟩
        | succ j =>
          have hj : j < n := by omega
          have d1 : [decide (((j + 1 : Nat) : Int) < (n : Int)) = true, 0 ≤ ((j + 1 : Nat) : Int) ∧ ((j + 1 : Nat) : Int) < (n : Int), j + 1 < n] = [decide (((j + 1 : Nat) : Int) < (n : Int)) = true, 0 ≤ ((j + 1 : Nat) : Int) ∧ ((j + 1 : Nat) : Int) < (n : Int), j + 1 < n] := rfl
          cases hpa : mayPathL (nd (j + 1)).path with
          | false =>
            refine At.fin rfl [(7001, _), (2009001, .val (.v (.bool true))), (9005, _)] ⟨hHold_ok _ (nd (j + 1)) true (hd _ h) hm, trivial, hPath_ok _ (nd (j + 1)).path false (hp _ h) hpa, trivial⟩ [.y, .d, .d] (x := .v (.bool false))
              (ob := [decide (((j + 1 : Nat) : Int) < (n : Int)) = true, 0 ≤ ((j + 1 : Nat) : Int) ∧ ((j + 1 : Nat) : Int) < (n : Int), j + 1 < n] ++ qL (hHold (nd (j + 1)) true) ++ [TV.v (.bool (decide (((j + 1 : Nat) : Int) > 0))) = TV.v (.bool true)] ++ qL (hPath (nd (j + 1)).path false)) (by kernel_rfl) ?_ fun ρ w' hf _ => ⟨?_, hf.below⟩
            · exact all_append.2 ⟨all_append.2 ⟨all_append.2 ⟨⟨decide_eq_true (by omega), by omega, h, trivial⟩, all_qL _⟩, ⟨by rw [decide_eq_true (by omega)], trivial⟩⟩, all_qL _⟩
            · rw [bad (by simp [okAt, hpa])]; rfl
          | true =>
            cases hfo : followsL (nd j) (nd (j + 1)) with
            | false =>
              refine At.fin rfl [(7001, _), (2009001, .val (.v (.bool true))), (9005, _), (2009009, .val (.int .i64 j)), (9013, _)] ⟨hHold_ok _ (nd (j + 1)) true (hd _ h) hm, trivial, hPath_ok _ (nd (j + 1)).path true (hp _ h) hpa, trivial, hFol_ok _ (nd j) (nd (j + 1)) false (hp _ hj) (hp _ h) hfo, trivial⟩ [.y, .d, .d] (x := .v (.bool false))
                (ob := [decide (((j + 1 : Nat) : Int) < (n : Int)) = true, 0 ≤ ((j + 1 : Nat) : Int) ∧ ((j + 1 : Nat) : Int) < (n : Int), j + 1 < n] ++ qL (hHold (nd (j + 1)) true) ++ [TV.v (.bool (decide (((j + 1 : Nat) : Int) > 0))) = TV.v (.bool true)] ++ qL (hPath (nd (j + 1)).path true) ++ [TV.int .i64 (((j + 1 : Nat) : Int) - 1) = TV.int .i64 j, inI (((j + 1 : Nat) : Int) - 1), 0 ≤ (j : Int) ∧ (j : Int) < (n : Int), j < n] ++ qL (hFol (nd j) (nd (j + 1)) false)) (by kernel_rfl) ?_ fun ρ w' hf _ => ⟨?_, hf.below⟩
              · exact all_append.2 ⟨all_append.2 ⟨all_append.2 ⟨all_append.2 ⟨all_append.2 ⟨⟨decide_eq_true (by omega), by omega, h, trivial⟩, all_qL _⟩, ⟨by rw [decide_eq_true (by omega)], trivial⟩⟩, all_qL _⟩, ⟨by rw [show ((j + 1 : Nat) : Int) - 1 = j by omega], ⟨by omega, by omega⟩, by omega, hj, trivial⟩⟩, all_qL _⟩
              · rw [bad (by simp only [okAt]; rw [hfo, Bool.and_false, Bool.and_false])]; rfl
            | true =>
              refine At.run rfl [(7001, _), (2009001, .val (.v (.bool true))), (9005, _), (2009009, .val (.int .i64 j)), (9013, _)] ⟨hHold_ok _ (nd (j + 1)) true (hd _ h) hm, trivial, hPath_ok _ (nd (j + 1)).path true (hp _ h) hpa, trivial, hFol_ok _ (nd j) (nd (j + 1)) true (hp _ hj) (hp _ h) hfo, trivial⟩ [.y, .d, .d] (tm2 := tmM n cap (j + 1 + 1)) (rows2 := [(0, ndRow nd n)]) (td := lp Tryd.f14 0)
                (ob := [decide (((j + 1 : Nat) : Int) < (n : Int)) = true, 0 ≤ ((j + 1 : Nat) : Int) ∧ ((j + 1 : Nat) : Int) < (n : Int), j + 1 < n] ++ qL (hHold (nd (j + 1)) true) ++ [TV.v (.bool (decide (((j + 1 : Nat) : Int) > 0))) = TV.v (.bool true)] ++ qL (hPath (nd (j + 1)).path true) ++ [TV.int .i64 (((j + 1 : Nat) : Int) - 1) = TV.int .i64 j, inI (((j + 1 : Nat) : Int) - 1), 0 ≤ (j : Int) ∧ (j : Int) < (n : Int), j < n] ++ qL (hFol (nd j) (nd (j + 1)) true) ++ [inI (((j + 1 : Nat) : Int) + 1)]) (by kernel_rfl) ?_ rfl rfl (by intro h; cases h) (ih (j + 1 + 1) ⟨h, good (by simp [okAt, hm, hpa, hfo])⟩ (by omega))
              exact all_append.2 ⟨all_append.2 ⟨all_append.2 ⟨all_append.2 ⟨all_append.2 ⟨all_append.2 ⟨⟨decide_eq_true (by omega), by omega, h, trivial⟩, all_qL _⟩, ⟨by rw [decide_eq_true (by omega)], trivial⟩⟩, all_qL _⟩, ⟨by rw [show ((j + 1 : Nat) : Int) - 1 = j by omega], ⟨by omega, by omega⟩, by omega, hj, trivial⟩⟩, all_qL _⟩, ⟨⟨by omega, by omega⟩, trivial⟩⟩
    · obtain rfl : k = n := by omega
      refine At.fin rfl [] trivial [.n] (x := .v (.bool true)) (ob := [decide ((k : Int) < (k : Int)) = false]) (by kernel_rfl) ⟨decide_eq_false (by omega), trivial⟩ fun ρ w' hf _ => ⟨?_, hf.below⟩
      rw [hall]; rfl
  unfold mayP
  by_cases h2 : n ≤ 256
  · rw [decide_eq_true h2, Bool.true_and]
    by_cases h3 : (nd 0).path = []
    · rw [show ((nd 0).path == []) = true by simpa using h3, Bool.true_and]
      refine At.run rfl [(2002003, .val (.v (.bool false))), (2002008, .val (.v (.bool false)))] ⟨trivial, trivial, trivial⟩ [.n] (tm2 := tmM n cap 0) (rows2 := [(0, ndRow nd n)]) (td := lp Tryd.f14 0)
        (ob := [TV.v (.bool (decide ((n : Int) < 1))) = TV.v (.bool false), TV.v (.bool (decide ((n : Int) > 256))) = TV.v (.bool false), 0 ≤ (0 : Int) ∧ (0 : Int) < (n : Int), 0 < n, (!(nd 0).path == lb ⟨#[]⟩) = false]) (by kernel_rfl) ?_ rfl rfl (by intro h; cases h) (hloop 0 ⟨by omega, rfl⟩)
      refine ⟨by rw [decide_eq_false (by omega)], by rw [decide_eq_false (by omega)], by omega, hn, by rw [h3]; rfl, trivial⟩
    · rw [show ((nd 0).path == []) = false by simpa using h3, Bool.false_and]
      refine At.fin rfl [(2002003, .val (.v (.bool false))), (2002008, .val (.v (.bool false)))] ⟨trivial, trivial, trivial⟩ [.y] (x := .v (.bool false))
        (ob := [TV.v (.bool (decide ((n : Int) < 1))) = TV.v (.bool false), TV.v (.bool (decide ((n : Int) > 256))) = TV.v (.bool false), 0 ≤ (0 : Int) ∧ (0 : Int) < (n : Int), 0 < n, (!(nd 0).path == lb ⟨#[]⟩) = true]) (by kernel_rfl) ?_ fun ρ w' hf _ => ⟨rfl, hf.below⟩
      refine ⟨by rw [decide_eq_false (by omega)], by rw [decide_eq_false (by omega)], by omega, hn, ?_, trivial⟩
      have : ¬ (nd 0).path = lb ⟨#[]⟩ := h3
      simpa using this
  · rw [decide_eq_false h2, Bool.false_and]
    refine At.fin rfl [(2002003, .val (.v (.bool false))), (2002008, .val (.v (.bool true)))] ⟨trivial, trivial, trivial⟩ [.d] (x := .v (.bool false))
      (ob := [TV.v (.bool (decide ((n : Int) < 1))) = TV.v (.bool false), TV.v (.bool (decide ((n : Int) > 256))) = TV.v (.bool true)]) (by kernel_rfl) ?_ fun ρ w' hf _ => ⟨rfl, hf.below⟩
    exact ⟨by rw [decide_eq_false (by omega)], by rw [decide_eq_true (by omega)], trivial⟩
end
theorem pmay_pos (b o cap : Nat) (l : List Nd) (h0 : 0 < l.length) (hl : l.length ≤ 1000000) (hp : ∀ c ∈ l, c.path.length ≤ 1000000) (hd : ∀ c ∈ l, c.data.length ≤ 1000000) (w : World) (hN : Nodes w b o l) :
    Calls Tryd.prog 14 #[slV b o l.length cap] w fun e w' => e = .returned (.bool (mayP (ndf l) l.length)) ∧ Below w.heap.size w w' := by
  have h := pmay_rows (ndf l) l.length cap h0 hl (fun i hi => by rw [ndf_at l i hi]; exact hp _ (List.getElem_mem hi)) (fun i hi => by rw [ndf_at l i hi]; exact hd _ (List.getElem_mem hi)) _ w (nodes_row hN h0 0)
  exact h
end Go.Proofs.YtgbaaiedpiiepaaDoor
