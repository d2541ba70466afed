/- Several texts, one behind the other; each says by itself what it proves, and on what conditions. -/
import Derived.Test.YtdbbcngolcnniaaDoorX09
/- A call of which the answer is told by 'there is': at its place in a region; the world reckoned from anew. No condition. -/
namespace Go.Proofs.YtdbbcngolcnniaaDoor.E
open Go Go.RowKit
set_option linter.unusedVariables false
set_option linter.unusedSimpArgs false

/-- Which function is called, with what, and where the answer goes. -/
def xCall (ops : Array Oper) (m : Nat) (s : St) : Option (Tmp × FuncId × List TV) :=
  match ops[m]? with
  | some o => match o.guard, o.dst, o.op with
    | none, some d, .call c => match c.callee with
      | .value y => match evalO s y, evalL s c.args.toList with
        | some (.s (.lf (.v (.func (.func f) fi ca)))), some vs => bif Nat.beq fi.toList.length 0 && Nat.beq ca.toList.length 0 then some (d, f, vs) else none
        | _, _ => none
      | _ => none
    | _, _, _ => none
  | none => none
theorem xCall_ok {P : Program} {ops : Array Oper} {m : Nat} {s : St} {d : Tmp} {f : FuncId} {vs : List TV} {w0 : World} {wr : Bs} {ρ : Env} {a : Act} {w : World} {Q : Exit → Act → World → Prop} {K : Act → World → Prop} {r : Option Nat} {n : Nat} (h : xCall ops m s = some (d, f, vs)) (hd : Den w0 wr ρ s a w) (he : Enters P f)
    (hc : Calls P f (vs.map (TV.val ρ)).toArray w fun e w' => ∃ v, e = .returned v ∧ K (a.put (some d) v) w') : wpOpIn (FW r) n P ops Q m K a w := by
  unfold xCall at h
  split at h
  · rename_i o ho
    split at h
    · rename_i d2 c hg hdst hop
      split at h
      · rename_i y hcal
        split at h
        · rename_i f2 fi ca vs2 hy hvs
          cases hb : (Nat.beq fi.toList.length 0 && Nat.beq ca.toList.length 0) with
          | false => rw [hb] at h; cases h
          | true =>
            rw [hb] at h
            cases h
            rw [Bool.and_eq_true] at hb
            obtain rfl : fi = #[] := by apply Array.ext'; exact List.length_eq_zero_iff.1 (Nat.eq_of_beq_eq_true hb.1)
            obtain rfl : ca = #[] := by apply Array.ext'; exact List.length_eq_zero_iff.1 (Nat.eq_of_beq_eq_true hb.2)
            have h1 := (evalO_ok hd hy).1
            have h2 := (evalL_ok hd hvs).1
            unfold wpOpIn
            rw [ho]
            simp only
            rw [if_pos (by simp [Region.wanted, hg])]
            refine ⟨fun _ _ => trivial, ?_⟩
            rw [Oper.semAt_eq _ _ _ (by rw [hop]; intro c hc; cases hc)]
            have h3 : c.args.map a.eval = (vs.map (TV.val ρ)).toArray := by
              apply Array.ext'
              rw [Array.toList_map, h2]
            have hrun : (execOp a.eval o).run P w = .ok (.enter f (vs.map (TV.val ρ)).toArray) w := by
              unfold execOp
              rw [hop]
              simp only [resolve, hcal, h1, TV.val, SV.val, Lf.val, h3, Deferred.ofValue, Sem.run_bind, Sem.run_pure, Result.andThen_ok, invoke, Array.append_empty, Array.empty_append]
              exact he _ w
            rw [hrun]
            refine ⟨fun h => by simp [FW, Fence.wide] at h, CallsIn.mono (callsIn_FW hc) ?_⟩
            rintro e w' ⟨v, rfl, hk⟩
            rw [hdst]
            exact hk
        · cases h
      · cases h
    · cases h
  · cases h
/-- Ahead of a call. -/
def call1 (P : Program) (C : Hints) (ops : Array Oper) (base m : Nat) (s : St) (ks rs : List Nat) : Option (List Prop × Tmp × FuncId × List TV × List (Option TV) × List (Option Row)) :=
  match yRun P C ops base m s with
  | some (o1, s1) => match xCall ops m s1 with
    | some (d, f, vs) => some (o1, d, f, vs, ks.map s1.tmps, rs.map s1.row)
    | none => none
  | none => none
/-- Behind it. -/
def call2 (P : Program) (C : Hints) (ops : Array Oper) (base m : Nat) (s : St) (ks rs : List Nat) : Option (List Prop × List (Option TV) × List (Option Row)) :=
  match yRest P C ops base m s with
  | some (o2, s2) => some (o2, ks.map s2.tmps, rs.map s2.row)
  | none => none
/-- **A call by a contract that says 'there is'.** What there is, x, may stand in the states behind. -/
theorem At.callX {α : Type} {P : Program} {w0 : World} {wr : Bs} {n : Nat} {gl : List Nat} {todo : List Item} {Q : Exit → Act → World → Prop} {tm tm1 : List (Nat × TV)} {rows rows1 : List (Nat × Row)} {r : Option Nat} {mk : List Nat} {o1 : List Prop} {d : Tmp} {f : FuncId} {vs : List TV} {o2 : α → List Prop}
    (m : Nat) (cs : List (Nat × Hint)) (hC : allC P cs) (w0' : α → World) (wr' : α → Bs) (tm2 tm3 : α → List (Nat × TV)) (rows2 rows3 : α → List (Nat × Row)) (I : α → Prop) (hr : isReg todo = true)
    (h1 : call1 P (findC cs) (hdOps todo) (1000 + hdRid todo * 1000) m (mkSt n tm rows gl mk) (tm1.map (·.1)) (rows1.map (·.1)) = some (o1, d, f, vs, tm1.map (fun p => some p.2), rows1.map fun p => some p.2)) (ho1 : all o1)
    (hs : (noDef (hdOps todo) && (Nat.ble (m + 1) (hdOps todo).size && (gl.all (fun g => Nat.ble (g + 1) 500) && (idsOk tm1 rows1 gl && wr.k.all (hasN (rows1.map (·.1) ++ gl.map (500 + ·))))))) = true) (he : Enters P f)
    (hcon : ∀ a w ρ, Den w0 wr ρ (mkSt n tm1 rows1 gl mk) a w → Calls P f (vs.map (TV.val ρ)).toArray w fun e w' => ∃ x v ρ', e = .returned v ∧ I x ∧ Den (w0' x) (wr' x) ρ' (mkSt n (tm2 x) (rows2 x) gl mk) (a.put (some d) v) w')
    (h2 : ∀ x, I x → call2 P (findC cs) (hdOps todo) (1000 + hdRid todo * 1000) m (mkSt n (tm2 x) (rows2 x) gl mk) ((tm3 x).map (·.1)) ((rows3 x).map (·.1)) = some (o2 x, (tm3 x).map (fun p => some p.2), (rows3 x).map fun p => some p.2))
    (ho2 : ∀ x, I x → all (o2 x)) (hs2 : ∀ x, (idsOk (tm3 x) (rows3 x) gl && (wr' x).k.all (hasN ((rows3 x).map (·.1) ++ gl.map (500 + ·)))) = true)
    (hK : ∀ x, I x → At P (w0' x) (wr' x) n gl todo.tail Q (tm3 x) (rows3 x) r mk) : At P w0 wr n gl todo Q tm rows r mk := by
  rw [isReg_ok hr]
  intro a w ρ hd
  generalize hdOps todo = ops at *
  generalize hdRid todo = rid at *
  simp only [Bool.and_eq_true] at hs
  obtain ⟨hnd, hms, hg, hi1, hk1⟩ := hs
  have hms := Nat.le_of_ble_eq_true hms
  have hC2 : ∀ {W : World} {wq : Bs}, ∀ id c, findC cs id = some c → HintAt P W wq id c := findC_at hC
  unfold call1 at h1
  split at h1
  · rename_i p1 s1 hr1
    split at h1
    · rename_i d2 f2 vs2 hy
      simp only [Option.some.injEq, Prod.mk.injEq] at h1
      obtain ⟨rfl, rfl, rfl, rfl, e1, e2⟩ := h1
      obtain ⟨k1, k2⟩ := runL_keep hr1
      refine KX.code (n := 5) (K := fun a w => KX P r todo.tail Q a w) (wpIn_region ?_) fun a w h => h
      rw [show List.range ops.size = List.range' 0 m ++ (m :: List.range' (m + 1) (ops.size - (m + 1))) by
        rw [List.range_eq_range', ← List.range'_succ]
        have := List.range'_append_1 (s := 0) (m := m) (n := ops.size - (m + 1) + 1)
        rw [Nat.zero_add] at this
        rw [this]
        congr 1
        omega]
      refine wpOpsIn_append (K := fun a w => ∃ ρ, Den w0 wr ρ s1 a w) hnd (fun a w ⟨ρ, hd⟩ => ?_) _ a w (seq_ok hC2 (fun a w ρ hd => ⟨rfl, ρ, hd⟩) _ _ _ _ _ _ _ hr1 ho1 hd)
      rw [wpOpsIn_cons]
      have hd1 := den_mk (gl := gl) hd e1 e2 (fun g hgm => ⟨Nat.le_of_ble_eq_true (List.all_eq_true.1 hg g hgm), k2 _ (hasN_iff.2 (List.mem_append.2 (.inr (List.mem_map.2 ⟨g, hgm, rfl⟩))))⟩) hi1 hk1
      rw [k1.1, k1.2] at hd1
      refine xCall_ok hy hd he ((hcon a w ρ hd1).mono ?_)
      rintro e w' ⟨x, v, ρ', rfl, hI, hd2⟩
      refine ⟨v, rfl, ?_⟩
      have h3 := h2 x hI
      unfold call2 at h3
      split at h3
      · rename_i p2 s2 hr2
        simp only [Option.some.injEq, Prod.mk.injEq] at h3
        obtain ⟨rfl, e3, e4⟩ := h3
        have hs3 := hs2 x
        rw [Bool.and_eq_true] at hs3
        refine rest_ok hnd hC2 hr2 (ho2 x hI) (fun a w ρ hd3 => ⟨rfl, ?_⟩) hd2
        obtain ⟨j1, j2⟩ := runL_keep hr2
        have := den_mk (gl := gl) hd3 e3 e4 (fun g hgm => ⟨Nat.le_of_ble_eq_true (List.all_eq_true.1 hg g hgm), j2 _ (hasN_iff.2 (List.mem_append.2 (.inr (List.mem_map.2 ⟨g, hgm, rfl⟩))))⟩) hs3.1 hs3.2
        rw [j1.1, j1.2] at this
        exact hK x hI a w ρ this
      · cases h3
    · cases h1
  · cases h1
/-- Behind a call that changed nothing of old: the world reckoned from anew; what it made are rows more (read alone), slot d the answer. -/
theorem den_call {w0 : World} {wr : Bs} {ρ σ : Env} {n : Nat} {tm : List (Nat × TV)} {rows nr : List (Nat × Row)} {gl K : List Nat} {a : Act} {w w' : World} {d : Tmp} {tv : TV} {v : Value} (hd : Den w0 wr ρ (mkSt n tm rows gl) a w) (hb : Below w.heap.size w w') (hdn : d < n) (hv : v = tv.val σ) (hok : tv.ok)
    (hσ : ∀ r, (r < 1000 ∨ hasN (rows.map (·.1)) r = true) → σ r = ρ r) (hi : idsOk ((d, tv) :: tm) (rows ++ nr) gl = true) (hnr : ∀ p ∈ nr, RowAt σ p.1 p.2 w' ∧ pok p.2.ps ∧ w.heap.size ≤ (σ p.1).1) (hro : nr.all (fun p => !p.2.w) = true) (hK : K.all (hasN ((rows ++ nr).map (·.1) ++ gl.map (500 + ·))) = true) (hgl : gl.all (fun g => Nat.ble (g + 1) 500) = true) (hn5 : nr.all (fun p => Nat.ble 1000 p.1) = true) (hold : tm.all (fun p => p.2.ids.all (fun r => Nat.ble (r + 1) 1000 || hasN (rows.map (·.1)) r)) = true) (holdR : rows.all (fun p => (pids p.2.ps).all (fun r => Nat.ble (r + 1) 1000 || hasN (rows.map (·.1)) r)) = true) :
    Den w' ⟨wlOf σ rows, σ, K⟩ σ (mkSt n ((d, tv) :: tm) (rows ++ nr) gl) (a.put (some d) v) w' := by
  subst hv
  simp only [idsOk, Bool.and_eq_true, List.all_eq_true] at hi
  have hwf : ∀ p ∈ nr, p.2.w = false := fun p hp => by simpa using List.all_eq_true.1 hro p hp
  have hσ2 : ∀ r, (Nat.ble (r + 1) 1000 || hasN (rows.map (·.1)) r) = true → σ r = ρ r := fun r hr => hσ r (by
    rw [Bool.or_eq_true] at hr
    exact hr.imp (fun h => Nat.le_of_ble_eq_true h) id)
  have hfind : ∀ {l m : List (Nat × Row)} {r : Nat} {y : Row}, findR (l ++ m) r = some y → findR l r = some y ∨ (r, y) ∈ m := by
    intro l m r y h
    induction l with
    | nil => exact .inr (findR_mem h)
    | cons p l ih =>
      rw [List.cons_append] at h
      unfold findR at h ⊢
      cases hbq : Nat.beq p.1 r with
      | true => rw [hbq] at h; exact .inl h
      | false => rw [hbq] at h; exact ih h
  refine ⟨by rw [put_size]; exact hd.sz, by rw [put_defers]; exact hd.df, ⟨List.nodup_nil, fun D hD => by cases hD⟩, KeepsOthers.refl _, fun t x hx => ?_, fun r y hr => ?_, fun r q y z hr hq hrq hw => ?_, Fr.refl _ _, fun _ _ => rfl, fun r hr => List.all_eq_true.1 hK r hr, fun g hg hu => ?_, fun r B h => by cases h⟩
  · rw [tm_put (s := mkSt n tm rows gl) (fun x hx => by cases hx; rw [hd.sz]; exact hdn)]
    simp only
    have hx2 : findT ((d, tv) :: tm) t = some x := hx
    unfold findT at hx2
    by_cases htd : t = d
    · rw [if_pos htd]
      subst htd
      simp at hx2
      subst hx2
      exact ⟨rfl, hok, fun r hr => hi.1 (t, tv) (by simp) r hr⟩
    · rw [if_neg htd]
      rw [show Nat.beq d t = false by cases hb : Nat.beq d t with | false => rfl | true => exact absurd (Nat.eq_of_beq_eq_true hb).symm htd] at hx2
      obtain ⟨g1, g2, g3⟩ := hd.tm t x hx2
      have hm := findT_mem hx2
      refine ⟨by rw [g1, TV.val_congr (fun r hr => (hσ2 r (List.all_eq_true.1 (List.all_eq_true.1 hold _ hm) r hr)).symm)], g2, fun r hr => hi.1 (t, x) (List.mem_cons_of_mem _ hm) r hr⟩
  · have hm := findR_mem (l := rows ++ nr) hr
    rcases hfind (l := rows) (m := nr) hr with h1 | h1
    · obtain ⟨g1, g2, _⟩ := hd.rw r y h1
      refine ⟨?_, g2, hasN_iff.2 (List.mem_append.2 (.inl (List.mem_map.2 ⟨_, hm, rfl⟩))), fun p hp => hi.2 _ hm p hp, fun hw => .inr (mem_wlOf (findR_mem h1) hw)⟩
      have g4 := g1.below hb
      have hself : σ r = ρ r := hσ r (.inr (hasN_iff.2 (List.mem_map.2 ⟨_, findR_mem h1, rfl⟩)))
      unfold RowAt at g4 ⊢
      rw [hself, lst_congr (σ := ρ) (fun q hq => hσ2 q (List.all_eq_true.1 (List.all_eq_true.1 holdR _ (findR_mem h1)) q hq))]
      exact g4
    · obtain ⟨g1, g2, _⟩ := hnr _ h1
      exact ⟨g1, g2, hasN_iff.2 (List.mem_append.2 (.inl (List.mem_map.2 ⟨_, hm, rfl⟩))), fun p hp => hi.2 _ hm p hp, (fun hw => by rw [hwf _ h1] at hw; cases hw)⟩
  · rcases hfind (l := rows) (m := nr) hr with h1 | h1
    · have hself : σ r = ρ r := hσ r (.inr (hasN_iff.2 (List.mem_map.2 ⟨_, findR_mem h1, rfl⟩)))
      rw [hself]
      rcases hfind (l := rows) (m := nr) hq with h2 | h2
      · rw [hσ q (.inr (hasN_iff.2 (List.mem_map.2 ⟨_, findR_mem h2, rfl⟩)))]
        exact hd.ds r q y z h1 h2 hrq hw
      · have g1 := (hd.rw r y h1).1.1
        have g2 := (hnr _ h2).2.2
        simp only at g2
        omega
    · rw [hwf _ h1] at hw; cases hw
  · rw [hσ _ (.inl (by omega))]
    refine hd.gl g hg ?_
    have := hasN_iff.1 hu
    refine hasN_iff.2 ?_
    rw [List.map_append] at this
    rcases List.mem_append.1 this with h1 | h1
    · rcases List.mem_append.1 h1 with h1 | h1
      · exact List.mem_append.2 (.inl h1)
      · obtain ⟨p, hp, he⟩ := List.mem_map.1 h1
        have := Nat.le_of_ble_eq_true (List.all_eq_true.1 hn5 p hp)
        omega
    · exact List.mem_append.2 (.inr h1)
/-- What was of old is so behind all of it. -/
theorem fr_call {w0 : World} {wr : Bs} {ρ σ : Env} {n : Nat} {tm : List (Nat × TV)} {rows : List (Nat × Row)} {gl : List Nat} {a : Act} {w w' w2 : World} (hd : Den w0 wr ρ (mkSt n tm rows gl) a w) (hn : nodupB (rows.map (·.1)) = true) (hb : Below w.heap.size w w')
    (hσ : ∀ r, (r < 1000 ∨ hasN (rows.map (·.1)) r = true) → σ r = ρ r) (hf : Fr w' (wlOf σ rows) w2) : Fr w0 wr.l w2 := by
  have h1 := hd.fr.trans_below hb
  refine ⟨hf.os.trans h1.os, hf.tape.trans h1.tape, hf.output.trans h1.output, Nat.le_trans h1.size hf.size, fun k hk hkn => (hf.block k (Nat.lt_of_lt_of_le hk h1.size) fun hm => ?_).trans (h1.block k hk hkn)⟩
  obtain ⟨p, hp, hw, he⟩ := wlOf_mem hm
  rw [hσ p.1 (.inr (hasN_iff.2 (List.mem_map.2 ⟨p, hp, rfl⟩)))] at he
  rcases (hd.rw p.1 p.2 (findR_nodup (nodupB_ok hn) hp)).2.2.2.2 hw with h2 | h2
  · omega
  · rw [he] at hkn; exact hkn h2
end Go.Proofs.YtdbbcngolcnniaaDoor.E
/- An operation told by its own contract, at its place in a region, drawn or not (there it is the last); the world reckoned from anew. No condition. -/
namespace Go.Proofs.YtdbbcngolcnniaaDoor.E
open Go Go.RowKit
set_option linter.unusedVariables false
set_option linter.unusedSimpArgs false

/-- Ahead of an operation. -/
def op1 (P : Program) (C : Hints) (ops : Array Oper) (base m : Nat) (s : St) (ks rs : List Nat) : Option (List Prop × List (Option TV) × List (Option Row)) :=
  match yRun P C ops base m s with
  | some (o1, s1) => some (o1, ks.map s1.tmps, rs.map s1.row)
  | none => none
/-- **An operation by its contract.** -/
theorem At.opX {α : Type} {P : Program} {w0 : World} {wr : Bs} {n : Nat} {gl : List Nat} {todo : List Item} {Q : Exit → Act → World → Prop} {tm tm1 : List (Nat × TV)} {rows rows1 : List (Nat × Row)} {r : Option Nat} {mk : List Nat} {o1 : List Prop} {o2 : α → List Prop}
    (m d : Nat) (cs : List (Nat × Hint)) (hC : allC P cs) (w0' : α → World) (wr' : α → Bs) (tm2 tm3 : α → List (Nat × TV)) (rows2 rows3 : α → List (Nat × Row)) (I : α → Prop) (hr : isReg todo = true)
    (h1 : op1 P (findC cs) (hdOps todo) (1000 + hdRid todo * 1000) m (mkSt n tm rows gl mk) (tm1.map (·.1)) (rows1.map (·.1)) = some (o1, tm1.map (fun p => some p.2), rows1.map fun p => some p.2)) (ho1 : all o1)
    (hs : (noDef (hdOps todo) && (Nat.ble (m + 1) (hdOps todo).size && (gl.all (fun g => Nat.ble (g + 1) 500) && (idsOk tm1 rows1 gl && wr.k.all (hasN (rows1.map (·.1) ++ gl.map (500 + ·))))))) = true)
    (hop : ∀ a w ρ (K : Act → World → Prop) (QQ : Exit → Act → World → Prop), Den w0 wr ρ (mkSt n tm1 rows1 gl mk) a w → (∀ x v w' ρ', I x → Den (w0' x) (wr' x) ρ' (mkSt n (tm2 x) (rows2 x) gl mk) (a.put (some d) v) w' → K (a.put (some d) v) w') → wpOpIn (FW r) 5 P (hdOps todo) QQ m K a w)
    (h2 : ∀ x, I x → call2 P (findC cs) (hdOps todo) (1000 + hdRid todo * 1000) m (mkSt n (tm2 x) (rows2 x) gl mk) ((tm3 x).map (·.1)) ((rows3 x).map (·.1)) = some (o2 x, (tm3 x).map (fun p => some p.2), (rows3 x).map fun p => some p.2))
    (ho2 : ∀ x, I x → all (o2 x)) (hs2 : ∀ x, (idsOk (tm3 x) (rows3 x) gl && (wr' x).k.all (hasN ((rows3 x).map (·.1) ++ gl.map (500 + ·)))) = true)
    (hK : ∀ x, I x → At P (w0' x) (wr' x) n gl todo.tail Q (tm3 x) (rows3 x) r mk) : At P w0 wr n gl todo Q tm rows r mk := by
  rw [isReg_ok hr]
  intro a w ρ hd
  generalize hdOps todo = ops at *
  generalize hdRid todo = rid at *
  simp only [Bool.and_eq_true] at hs
  obtain ⟨hnd, hms, hg, hi1, hk1⟩ := hs
  have hms := Nat.le_of_ble_eq_true hms
  have hC2 : ∀ {W : World} {wq : Bs}, ∀ id c, findC cs id = some c → HintAt P W wq id c := findC_at hC
  unfold op1 at h1
  split at h1
  · rename_i p1 s1 hr1
    simp only [Option.some.injEq, Prod.mk.injEq] at h1
    obtain ⟨rfl, e1, e2⟩ := h1
    obtain ⟨k1, k2⟩ := runL_keep hr1
    refine KX.code (n := 5) (K := fun a w => KX P r todo.tail Q a w) (wpIn_region ?_) fun a w h => h
    rw [show List.range ops.size = List.range' 0 m ++ (m :: List.range' (m + 1) (ops.size - (m + 1))) by
      rw [List.range_eq_range', ← List.range'_succ]
      have := List.range'_append_1 (s := 0) (m := m) (n := ops.size - (m + 1) + 1)
      rw [Nat.zero_add] at this
      rw [this]
      congr 1
      omega]
    refine wpOpsIn_append (K := fun a w => ∃ ρ, Den w0 wr ρ s1 a w) hnd (fun a w ⟨ρ, hd⟩ => ?_) _ a w (seq_ok hC2 (fun a w ρ hd => ⟨rfl, ρ, hd⟩) _ _ _ _ _ _ _ hr1 ho1 hd)
    rw [wpOpsIn_cons]
    have hd1 := den_mk (gl := gl) hd e1 e2 (fun g hgm => ⟨Nat.le_of_ble_eq_true (List.all_eq_true.1 hg g hgm), k2 _ (hasN_iff.2 (List.mem_append.2 (.inr (List.mem_map.2 ⟨g, hgm, rfl⟩))))⟩) hi1 hk1
    rw [k1.1, k1.2] at hd1
    refine hop a w ρ _ _ hd1 ?_
    intro x v w' ρ' hI hd2
    have h3 := h2 x hI
    unfold call2 at h3
    split at h3
    · rename_i p2 s2 hr2
      simp only [Option.some.injEq, Prod.mk.injEq] at h3
      obtain ⟨rfl, e3, e4⟩ := h3
      have hs3 := hs2 x
      rw [Bool.and_eq_true] at hs3
      refine rest_ok hnd hC2 hr2 (ho2 x hI) (fun a w ρ hd3 => ⟨rfl, ?_⟩) hd2
      obtain ⟨j1, j2⟩ := runL_keep hr2
      have := den_mk (gl := gl) hd3 e3 e4 (fun g hgm => ⟨Nat.le_of_ble_eq_true (List.all_eq_true.1 hg g hgm), j2 _ (hasN_iff.2 (List.mem_append.2 (.inr (List.mem_map.2 ⟨g, hgm, rfl⟩))))⟩) hs3.1 hs3.2
      rw [j1.1, j1.2] at this
      exact hK x hI a w ρ this
    · cases h3
  · cases h1

/-! ### The last operation of a region that draws its order -/

theorem getD_push (l : Array Bool) (k : Nat) : (l.push false).getD k false = l.getD k false := by
  rw [Array.getD_eq_getD_getElem?, Array.getD_eq_getD_getElem?, Array.getElem?_push]
  by_cases h : k = l.size
  · rw [if_pos h, h, Array.getElem?_eq_none (Nat.le_refl _)]; rfl
  · rw [if_neg h]
theorem any_push {P : Program} {F : Fence} {n : Nat} {ops : Array Oper} {o : Oper} {A : List (List Nat)} (hng : ∀ (i : Nat) (x : Oper), ops[i]? = some x → x.guard = none) (hA : AncOk (ops.push o) A) (hl : ∀ i, i < ops.size → i ∈ A.getD ops.size []) (hf : fwd (ops.push o) = true)
    {K : Act → World → Prop} {Q : Exit → Act → World → Prop} (hlast : ∀ a w, K a w → wpOpIn F n P (ops.push o) Q ops.size (fun a w => Q .normal a w) a w) :
    ∀ (fuel : Nat) (listed : Array Bool) (a : Act) (w : World), listed.size = ops.size → Down A (listed.push false) → wpAnyIn F n P .any ops (fun e a w => e = .normal ∧ K a w) fuel listed a w → wpAnyIn F n P .any (ops.push o) Q (fuel + 1) (listed.push false) a w := by
  have hop : ∀ i, i < ops.size → (ops.push o)[i]? = ops[i]? := fun i hi => by rw [Array.getElem?_push, if_neg (by omega)]
  have hopn : (ops.push o)[ops.size]? = some o := by rw [Array.getElem?_push, if_pos rfl]
  have hgt : ∀ (l : Array Bool) (i : Nat), i < l.size → (l.push false).getD i true = l.getD i true := fun l i hi => by
    rw [Array.getD_eq_getD_getElem?, Array.getD_eq_getD_getElem?, Array.getElem?_push, if_neg (by omega)]
  have hrd : ∀ (listed : Array Bool), listed.size = ops.size → ∀ j, j < ops.size → (j ∈ Region.ready .any (ops.push o) (listed.push false) ↔ j ∈ Region.ready .any ops listed) := by
    intro listed hsz j hj
    rw [mem_ready, mem_ready, hop j hj, hgt listed j (by omega)]
    simp only [getD_push]
  have hall : ∀ (listed : Array Bool), listed.size = ops.size → Region.ready .any ops listed = [] → ∀ i, i < ops.size → listed.getD i false = true := by
    intro listed hsz h0 i
    induction i using Nat.strongRecOn with
    | ind i ih =>
      intro hi
      cases hg : listed.getD i false with
      | true => rfl
      | false =>
        have hio : ops[i]? = some ops[i] := Array.getElem?_eq_getElem hi
        have : i ∈ Region.ready .any ops listed := by
          refine mem_ready.2 ⟨?_, ops[i], hio, fun e he hb => ?_⟩
          · rw [Array.getD_eq_getD_getElem?, Array.getElem?_eq_getElem (by omega)] at hg ⊢
            exact hg
          · have := fwd_ok hf ((hop i hi).trans hio) e he hb
            exact ih e.on this (by omega)
        rw [h0] at this; cases this
  have hlr : ∀ (listed : Array Bool), listed.size = ops.size → Down A (listed.push false) → ops.size ∈ Region.ready .any (ops.push o) (listed.push false) → ∀ i, i < ops.size → listed.getD i false = true := by
    intro listed hsz hD hr i hi
    cases hg : listed.getD i false with
    | true => rfl
    | false => exact absurd (hl i hi) (not_waits hA hD hr (by rw [getD_push]; exact hg))
  have hfin : ∀ (fuel : Nat) (listed : Array Bool) (a : Act) (w : World), listed.size = ops.size → (∀ i, i < ops.size → listed.getD i false = true) → Q .normal a w → wpAnyIn F n P .any (ops.push o) Q fuel ((listed.push false).setIfInBounds ops.size true) a w := by
    intro fuel listed a w hsz hal hq
    have hr0 : Region.ready .any (ops.push o) ((listed.push false).setIfInBounds ops.size true) = [] := by
      cases hq2 : Region.ready .any (ops.push o) ((listed.push false).setIfInBounds ops.size true) with
      | nil => rfl
      | cons j js =>
        have hj : j ∈ Region.ready .any (ops.push o) ((listed.push false).setIfInBounds ops.size true) := by rw [hq2]; exact List.mem_cons_self ..
        obtain ⟨h0, x, hx, _⟩ := mem_ready.1 hj
        have hjn : j < ops.size + 1 := by have := (Array.getElem?_eq_some_iff.1 hx).1; simpa using this
        have ht : ((listed.push false).setIfInBounds ops.size true).getD j false = true := by
          by_cases hjs : j = ops.size
          · subst hjs
            rw [Array.getD_eq_getD_getElem?, Array.getElem?_setIfInBounds]
            simp [hsz]
          · exact getD_set_true (by rw [getD_push]; exact hal j (by omega))
        rw [Array.getD_eq_getD_getElem?] at h0 ht
        cases hv : ((listed.push false).setIfInBounds ops.size true)[j]? with
        | none => rw [hv] at ht; cases ht
        | some b => rw [hv] at h0 ht; simp at h0 ht; rw [h0] at ht; cases ht
    cases fuel with
    | zero => exact ⟨hr0, hq⟩
    | succ f => exact ⟨fun _ => hq, fun i hi => by rw [hr0] at hi; cases hi⟩
  have hne : ∀ (listed : Array Bool), listed.size = ops.size → Region.ready .any ops listed = [] → ops.size ∈ Region.ready .any (ops.push o) (listed.push false) := by
    intro listed hsz h0
    refine mem_ready.2 ⟨?_, o, hopn, fun e he hb => ?_⟩
    · rw [Array.getD_eq_getD_getElem?, Array.getElem?_push, if_pos hsz.symm]; rfl
    · have := fwd_ok hf hopn e he hb
      rw [getD_push]
      exact hall listed hsz h0 e.on this
  intro fuel
  induction fuel with
  | zero =>
    intro listed a w hsz hD h
    obtain ⟨h0, _, hk⟩ := h
    refine ⟨fun hr => ?_, fun i hi => ?_⟩
    · have := hne listed hsz h0
      rw [hr] at this; cases this
    · have hin : i < ops.size + 1 := by
        obtain ⟨_, x, hx, _⟩ := mem_ready.1 hi
        have := (Array.getElem?_eq_some_iff.1 hx).1; simpa using this
      by_cases his : i = ops.size
      · subst his
        refine wpOpIn_mono (fun a w hq => ?_) (hlast a w hk)
        exact hfin _ _ _ _ hsz (hall listed hsz h0) hq
      · have := (hrd listed hsz i (by omega)).1 hi
        rw [h0] at this; cases this
  | succ fuel ih =>
    intro listed a w hsz hD h
    obtain ⟨h0, h1⟩ := h
    refine ⟨fun hr => ?_, fun i hi => ?_⟩
    · cases hq : Region.ready .any ops listed with
      | nil =>
        have := hne listed hsz hq
        rw [hr] at this; cases this
      | cons j js =>
        have hj : j ∈ Region.ready .any ops listed := by rw [hq]; exact List.mem_cons_self ..
        have hjn : j < ops.size := by
          obtain ⟨_, x, hx, _⟩ := mem_ready.1 hj
          exact (Array.getElem?_eq_some_iff.1 hx).1
        have := (hrd listed hsz j hjn).2 hj
        rw [hr] at this; cases this
    · have hin : i < ops.size + 1 := by
        obtain ⟨_, x, hx, _⟩ := mem_ready.1 hi
        have := (Array.getElem?_eq_some_iff.1 hx).1; simpa using this
      by_cases his : i = ops.size
      · subst his
        have hal := hlr listed hsz hD hi
        have hr0 : Region.ready .any ops listed = [] := by
          cases hq : Region.ready .any ops listed with
          | nil => rfl
          | cons j js =>
            have hj : j ∈ Region.ready .any ops listed := by rw [hq]; exact List.mem_cons_self ..
            obtain ⟨h2, x, hx, _⟩ := mem_ready.1 hj
            have := hal j (Array.getElem?_eq_some_iff.1 hx).1
            rw [Array.getD_eq_getD_getElem?] at h2 this
            cases hv : listed[j]? with
            | none => rw [hv] at this; cases this
            | some b => rw [hv] at h2 this; simp at h2 this; rw [h2] at this; cases this
        refine wpOpIn_mono (fun a w hq => ?_) (hlast a w (h0 hr0).2)
        exact hfin _ _ _ _ hsz hal hq
      · have hi2 := (hrd listed hsz i (by omega)).1 hi
        have h2 := h1 i hi2
        have hset : (listed.push false).setIfInBounds i true = (listed.setIfInBounds i true).push false := by
          apply Array.ext'
          rw [Array.toList_setIfInBounds, Array.toList_push, Array.toList_push, Array.toList_setIfInBounds, List.set_append_left _ _ (by rw [Array.length_toList]; omega)]
        have hD2 : Down A ((listed.setIfInBounds i true).push false) := by
          have := down_set hA hD hi
          rwa [hset] at this
        obtain ⟨_, x, hx, _⟩ := mem_ready.1 hi2
        have hw : ∀ (os : Array Oper), Region.wanted x (yielded os a.tmps) = true := fun os => by unfold Region.wanted; rw [hng i x hx]
        unfold wpOpIn at h2 ⊢
        rw [hop i (by omega), hx]
        rw [hx] at h2
        simp only at h2 ⊢
        rw [if_pos (hw _)] at h2 ⊢
        rw [hset]
        refine wpIn_out (Oper.wpIn_mono (fun a w h => ih (listed.setIfInBounds i true) a w (by simp [hsz]) hD2 h) h2) (fun e a w he h => he h.1)
/-- Ahead of the last operation of a region that draws its order. -/
def opL1 (P : Program) (C : Hints) (ops : Array Oper) (base : Nat) (s : St) (ks rs : List Nat) : Option (List Prop × List (Option TV) × List (Option Row)) :=
  bif noDef ops.pop then
    bif fwd ops.pop && pairs ops.pop.size (okPair ops.pop (recL P C ops.pop base ops.pop.size 0 s) (ancs ops.pop.toList [])) then match runL P C ops.pop base (recL P C ops.pop base ops.pop.size 0 s) ops.pop.size 0 s with
      | some (o1, s1) => some (o1, ks.map s1.tmps, rs.map s1.row)
      | none => none
    else none
  else none
def isRegD : List Item → Bool
  | .code (.region _ _ true) :: _ => true
  | _ => false
theorem isRegD_ok : ∀ {t : List Item}, isRegD t = true → t = .code (.region (hdRid t) (hdOps t) true) :: t.tail
  | .code (.region id ops true) :: k, _ => rfl
/-- What the last operation waits for: all others; none of them has a guard. -/
def lastOk (ops : Array Oper) : Bool := Nat.ble 1 ops.size && (fwd ops && ((List.range ops.pop.size).all (fun i => hasN ((ancs ops.toList []).getD ops.pop.size []) i) && ops.pop.toList.all (fun o => match o.guard with | none => true | some _ => false)))
/-- **The last operation of a region that draws its order, by its contract.** -/
theorem At.opL {α : Type} {P : Program} {w0 : World} {wr : Bs} {n : Nat} {gl : List Nat} {todo : List Item} {Q : Exit → Act → World → Prop} {tm tm1 : List (Nat × TV)} {rows rows1 : List (Nat × Row)} {r : Option Nat} {mk : List Nat} {o1 : List Prop}
    (hm : P.follows .mixedOrders = true) (d : Nat) (cs : List (Nat × Hint)) (hC : allC P cs) (w0' : α → World) (wr' : α → Bs) (tm2 : α → List (Nat × TV)) (rows2 : α → List (Nat × Row)) (I : α → Prop) (hr : isRegD todo = true)
    (h1 : opL1 P (findC cs) (hdOps todo) (1000 + hdRid todo * 1000) (mkSt n tm rows gl mk) (tm1.map (·.1)) (rows1.map (·.1)) = some (o1, tm1.map (fun p => some p.2), rows1.map fun p => some p.2)) (ho1 : all o1)
    (hs : (gl.all (fun g => Nat.ble (g + 1) 500) && (idsOk tm1 rows1 gl && wr.k.all (hasN (rows1.map (·.1) ++ gl.map (500 + ·))))) = true) (hl : lastOk (hdOps todo) = true)
    (hop : ∀ a w ρ (K : Act → World → Prop) (QQ : Exit → Act → World → Prop), Den w0 wr ρ (mkSt n tm1 rows1 gl mk) a w → (∀ x v w' ρ', I x → Den (w0' x) (wr' x) ρ' (mkSt n (tm2 x) (rows2 x) gl mk) (a.put (some d) v) w' → K (a.put (some d) v) w') → wpOpIn (FW r) 5 P (hdOps todo) QQ (hdOps todo).pop.size K a w)
    (hK : ∀ x, I x → At P (w0' x) (wr' x) n gl todo.tail Q (tm2 x) (rows2 x) r mk) : At P w0 wr n gl todo Q tm rows r mk := by
  rw [isRegD_ok hr]
  intro a w ρ hd
  generalize hdOps todo = ops at *
  generalize hdRid todo = rid at *
  simp only [Bool.and_eq_true] at hs
  obtain ⟨hg, hi1, hk1⟩ := hs
  simp only [lastOk, Bool.and_eq_true] at hl
  obtain ⟨hsz, hf, hanc, hgd⟩ := hl
  have hsz := Nat.le_of_ble_eq_true hsz
  have hC2 : ∀ {W : World} {wq : Bs}, ∀ id c, findC cs id = some c → HintAt P W wq id c := findC_at hC
  have hback : ops.pop.push (ops.back (by omega)) = ops := by
    apply Array.ext'
    rw [Array.toList_push, Array.toList_pop, ← Array.getLast_toList]
    exact List.dropLast_concat_getLast (by intro h; have := congrArg List.length h; simp at this; simp [this] at hsz)
  unfold opL1 at h1
  cases hnd : noDef ops.pop with
  | false => rw [hnd] at h1; cases h1
  | true =>
  rw [hnd] at h1
  simp only [cond_true] at h1
  cases hb : (fwd ops.pop && pairs ops.pop.size (okPair ops.pop (recL P (findC cs) ops.pop (1000 + rid * 1000) ops.pop.size 0 (mkSt n tm rows gl mk)) (ancs ops.pop.toList []))) with
  | false => rw [hb] at h1; cases h1
  | true =>
  rw [hb] at h1
  simp only [cond_true] at h1
  rw [Bool.and_eq_true] at hb
  split at h1
  · rename_i p1 s1 hr1
    simp only [Option.some.injEq, Prod.mk.injEq] at h1
    obtain ⟨rfl, e1, e2⟩ := h1
    obtain ⟨k1, k2⟩ := runL_keep hr1
    refine KX.code (n := 5) (K := fun a w => KX P r todo.tail Q a w) ?_ fun a w h => h
    refine wpIn_region_any hm ?_
    have hK8 : ¬ LetsOut (fun e a w => e = Exit.normal ∧ ∃ ρ, Den w0 wr ρ s1 a w) := fun ⟨_, _, h, _⟩ => by cases h
    have h8 := wpAnyIn_of (r := r) (n := 5) hnd hK8 _ _ _ _ (any_of_sym (base := 1000 + rid * 1000) (R := recL P (findC cs) ops.pop (1000 + rid * 1000) ops.pop.size 0 (mkSt n tm rows gl mk)) (K := fun x => x = s1) hC2 (fun x a w ρ hx hd => ⟨rfl, ρ, hx ▸ hd⟩) ops.pop.size (Array.replicate ops.pop.size false) _ _ _ ρ (den_drew hd) (sym_lex (A := ancs ops.pop.toList []) (fun j o hj i hi => by
        have := ancs_ok ops.pop.toList [] j o (by rw [Array.getElem?_toList]; exact hj) i (by simpa using hi)
        exact this) hb.1 hb.2 _ 0 _ _ _ _ (by simp) (by simp) (fun j hj => by simp only [Array.getElem?_replicate]; rw [if_pos hj]; simp) (fun k hk i hi => by
        rcases Nat.lt_or_ge k ops.pop.size with h | h
        · rw [Array.getD_eq_getD_getElem?, Array.getElem?_replicate, if_pos h] at hk; cases hk
        · rw [Array.getD_eq_getD_getElem?, Array.getElem?_replicate, if_neg (by omega)] at hk; cases hk) hr1 ho1 rfl))
    have key := any_push (F := FW r) (n := 5) (P := P) (ops := ops.pop) (o := ops.back (by omega)) (A := ancs ops.toList []) (Q := fun e a w => e = .normal ∧ KX P r todo.tail Q a w) (fun i x hx => ?_) (by
        rw [hback]
        intro j o hj i hi
        exact ancs_ok ops.toList [] j o (by simpa using hj) i (by simpa using hi)) (fun i hi => hasN_iff.1 (List.all_eq_true.1 hanc i (List.mem_range.2 hi))) (by rw [hback]; exact hf) (K := fun a w => ∃ ρ, Den w0 wr ρ s1 a w) (fun a w ⟨ρ, hd2⟩ => ?_) _ _ _ _ (by simp) ?_ h8
    · rw [hback] at key
      have e : (Array.replicate ops.pop.size false).push false = Array.replicate ops.size false := by
        apply Array.ext'
        rw [Array.toList_push, Array.toList_replicate, Array.toList_replicate, ← List.replicate_succ', Array.size_pop]
        congr 1
        omega
      rw [e] at key
      rwa [show ops.pop.size + 1 = ops.size by rw [Array.size_pop]; omega] at key
    · have := List.all_eq_true.1 hgd x (List.mem_of_getElem? (by rw [Array.getElem?_toList]; exact hx))
      split at this
      · assumption
      · cases this
    · rw [hback]
      have hd1 := den_mk (gl := gl) hd2 e1 e2 (fun g hgm => ⟨Nat.le_of_ble_eq_true (List.all_eq_true.1 hg g hgm), k2 _ (hasN_iff.2 (List.mem_append.2 (.inr (List.mem_map.2 ⟨g, hgm, rfl⟩))))⟩) hi1 hk1
      rw [k1.1, k1.2] at hd1
      exact hop a w ρ _ _ hd1 fun x v w' ρ' hI hd3 => ⟨rfl, hK x hI _ _ ρ' hd3⟩
    · intro k hk i hi
      rw [getD_push] at hk
      rcases Nat.lt_or_ge k ops.pop.size with h | h
      · rw [Array.getD_eq_getD_getElem?, Array.getElem?_replicate, if_pos h] at hk; cases hk
      · rw [Array.getD_eq_getD_getElem?, Array.getElem?_replicate, if_neg (by omega)] at hk; cases hk
  · cases h1
/-! ### A function value that bears its first arguments -/

/-- Which function is called, with what, and where the answer goes. -/
def xCallF (ops : Array Oper) (m : Nat) (s : St) : Option (Tmp × FuncId × Array Value × Array Value × List TV) :=
  match ops[m]? with
  | some o => match o.guard, o.dst, o.op with
    | none, some d, .call c => match c.callee with
      | .value y => match evalO s y, evalL s c.args.toList with
        | some (.s (.lf (.v (.func (.func f) fi ca)))), some vs => some (d, f, fi, ca, vs)
        | _, _ => none
      | _ => none
    | _, _, _ => none
  | none => none
theorem xCallF_ok {P : Program} {ops : Array Oper} {m : Nat} {s : St} {d : Tmp} {f : FuncId} {fi ca : Array Value} {vs : List TV} {w0 : World} {wr : Bs} {ρ : Env} {a : Act} {w : World} {Q : Exit → Act → World → Prop} {K : Act → World → Prop} {r : Option Nat} {n : Nat} (h : xCallF ops m s = some (d, f, fi, ca, vs)) (hd : Den w0 wr ρ s a w) (he : Enters P f)
    (hc : Calls P f (fi ++ (vs.map (TV.val ρ)).toArray ++ ca) w fun e w' => ∃ v, e = .returned v ∧ K (a.put (some d) v) w') : wpOpIn (FW r) n P ops Q m K a w := by
  unfold xCallF at h
  split at h
  · rename_i o ho
    split at h
    · rename_i d2 c hg hdst hop
      split at h
      · rename_i y hcal
        split at h
        · rename_i f2 fi ca vs2 hy hvs
          cases h
          have h1 := (evalO_ok hd hy).1
          have h2 := (evalL_ok hd hvs).1
          unfold wpOpIn
          rw [ho]
          simp only
          rw [if_pos (by simp [Region.wanted, hg])]
          refine ⟨fun _ _ => trivial, ?_⟩
          rw [Oper.semAt_eq _ _ _ (by rw [hop]; intro c hc; cases hc)]
          have h3 : c.args.map a.eval = (vs.map (TV.val ρ)).toArray := by
            apply Array.ext'
            rw [Array.toList_map, h2]
          have hrun : (execOp a.eval o).run P w = .ok (.enter f (fi ++ (vs.map (TV.val ρ)).toArray ++ ca)) w := by
            unfold execOp
            rw [hop]
            simp only [resolve, hcal, h1, TV.val, SV.val, Lf.val, h3, Deferred.ofValue, Sem.run_bind, Sem.run_pure, Result.andThen_ok, invoke, Array.append_empty, Array.empty_append]
            exact he _ w
          rw [hrun]
          refine ⟨fun h => by simp [FW, Fence.wide] at h, CallsIn.mono (callsIn_FW hc) ?_⟩
          rintro e w' ⟨v, rfl, hk⟩
          rw [hdst]
          exact hk
        · cases h
      · cases h
    · cases h
  · cases h

end Go.Proofs.YtdbbcngolcnniaaDoor.E
/- A region that draws its order, of which every operation but the last is pure: by values, whatever the order; a state told anew. No condition. -/
namespace Go.Proofs.YtdbbcngolcnniaaDoor.E
open Go Go.RowKit
set_option linter.unusedVariables false
set_option linter.unusedSimpArgs false

theorem countP_lt {α : Type} {p q : α → Bool} : ∀ {l : List α}, (∀ x ∈ l, q x = true → p x = true) → (∃ x ∈ l, p x = true ∧ q x = false) → l.countP q < l.countP p
  | [], _, ⟨x, hx, _⟩ => by cases hx
  | y :: l, h, ⟨x, hx, h1, h2⟩ => by
    have hl : l.countP q ≤ l.countP p := List.countP_mono_left fun z hz => h z (List.mem_cons_of_mem _ hz)
    rw [List.countP_cons, List.countP_cons]
    rcases List.mem_cons.1 hx with rfl | hx
    · rw [h1, h2]; simp; omega
    · have := countP_lt (fun z hz => h z (List.mem_cons_of_mem _ hz)) ⟨x, hx, h1, h2⟩
      have hy := h y (List.mem_cons_self ..)
      cases hq : q y with
      | true => rw [hy hq]; simp; omega
      | false => cases p y <;> simp <;> omega
/-- What is known of an activation: temporaries that stay (B), and those that are done (D: what each operation makes). -/
structure Kn (n : Nat) (df : List Deferred) (B D : List (Tmp × Value)) (L : Nat → Bool) (a : Act) : Prop where
  sz : a.tmps.size = n
  df : a.defers = df
  b : ∀ p ∈ B, a.tmps[p.1]? = some p.2
  d : ∀ i p, D[i]? = some p → L i = true → a.tmps[p.1]? = some p.2
theorem Kn.put {n : Nat} {df : List Deferred} {B D : List (Tmp × Value)} {L L' : Nat → Bool} {a : Act} (h : Kn n df B D L a) {i : Nat} {p : Tmp × Value} (hp : D[i]? = some p) (hL : ∀ j, L' j = true → L j = true ∨ j = i) (hn : (D.map (·.1)).Nodup) (hB : ∀ q ∈ B, q.1 ≠ p.1) (hs : p.1 < n) : Kn n df B D L' (a.put (some p.1) p.2) := by
  have hput : ∀ t, (a.put (some p.1) p.2).tmps[t]? = if t = p.1 then some p.2 else a.tmps[t]? := by
    intro t
    show (a.tmps.setIfInBounds p.1 p.2)[t]? = _
    rw [Array.getElem?_setIfInBounds]
    by_cases ht : t = p.1
    · subst ht; simp [h.sz, hs]
    · rw [if_neg (Ne.symm ht), if_neg ht]
  refine ⟨by rw [put_size]; exact h.sz, by rw [put_defers]; exact h.df, fun q hq => by rw [hput, if_neg (hB q hq)]; exact h.b q hq, fun j q hq hj => ?_⟩
  rw [hput]
  by_cases he : q.1 = p.1
  · have h1 : i < D.length := (List.getElem?_eq_some_iff.1 hp).1
    have h2 : j < D.length := (List.getElem?_eq_some_iff.1 hq).1
    have hpw := List.pairwise_iff_getElem.1 hn
    have e1 : (D.map (·.1))[i]'(by simpa using h1) = p.1 := by rw [List.getElem_map, (List.getElem?_eq_some_iff.1 hp).2]
    have e2 : (D.map (·.1))[j]'(by simpa using h2) = q.1 := by rw [List.getElem_map, (List.getElem?_eq_some_iff.1 hq).2]
    have : i = j := by
      rcases Nat.lt_trichotomy i j with h | h | h
      · exact absurd (e1.trans (he.symm.trans e2.symm)) (hpw i j _ _ h)
      · exact h
      · exact absurd (e2.trans (he.trans e1.symm)) (hpw j i _ _ h)
    subst this
    rw [hp] at hq
    cases hq
    rw [if_pos rfl]
  · rw [if_neg he]
    rcases hL j hj with h3 | h3
    · exact h.d j q hq h3
    · subst h3
      rw [hp] at hq
      cases hq
      exact absurd rfl he
theorem any_pure {P : Program} {r : Option Nat} {m n : Nat} {df : List Deferred} {ops : Array Oper} {B D : List (Tmp × Value)} {w : World} (hf : fwd ops = true) (hlen : D.length = ops.size) (hn : (D.map (·.1)).Nodup) (hB : ∀ q ∈ B, ∀ p ∈ D, q.1 ≠ p.1) (hs : ∀ p ∈ D, p.1 < n)
    (hg : ∀ (i : Nat) (x : Oper), ops[i]? = some x → x.guard = none ∧ (∀ c, x.op ≠ .defer c) ∧ ∀ p, D[i]? = some p → x.dst = some p.1)
    (hst : ∀ (i : Nat) (x : Oper) (p : Tmp × Value) (L : Nat → Bool) (a : Act), ops[i]? = some x → D[i]? = some p → (∀ e ∈ x.after, Region.binds .any e = true → L e.on = true) → Kn n df B D L a → (execOp a.eval x).run P w = .ok (.value p.2) w) :
    ∀ (fuel : Nat) (listed : Array Bool) (a : Act), listed.size = ops.size → (List.range ops.size).countP (fun i => !listed.getD i false) ≤ fuel → Kn n df B D (fun i => listed.getD i false) a →
      wpAnyIn (FW r) m P .any ops (fun e a w' => e = .normal ∧ w' = w ∧ Kn n df B D (fun _ => true) a) fuel listed a w := by
  have hall : ∀ (listed : Array Bool), listed.size = ops.size → Region.ready .any ops listed = [] → ∀ i, i < ops.size → listed.getD i false = true := by
    intro listed hsz h0 i
    induction i using Nat.strongRecOn with
    | ind i ih =>
      intro hi
      cases hgt : listed.getD i false with
      | true => rfl
      | false =>
        have hio : ops[i]? = some ops[i] := Array.getElem?_eq_getElem hi
        have : i ∈ Region.ready .any ops listed := by
          refine mem_ready.2 ⟨?_, ops[i], hio, fun e he hb => ?_⟩
          · rw [Array.getD_eq_getD_getElem?, Array.getElem?_eq_getElem (by omega)] at hgt ⊢
            exact hgt
          · exact ih e.on (fwd_ok hf hio e he hb) (by have := fwd_ok hf hio e he hb; omega)
        rw [h0] at this; cases this
  have hdone : ∀ (listed : Array Bool) (a : Act), listed.size = ops.size → Region.ready .any ops listed = [] → Kn n df B D (fun i => listed.getD i false) a → Kn n df B D (fun _ => true) a := by
    intro listed a hsz h0 hk
    exact ⟨hk.sz, hk.df, hk.b, fun i p hp _ => hk.d i p hp (hall listed hsz h0 i (by have := (List.getElem?_eq_some_iff.1 hp).1; omega))⟩
  have hstep : ∀ (listed : Array Bool) (a : Act) (i : Nat) (K : Act → World → Prop), listed.size = ops.size → i ∈ Region.ready .any ops listed → Kn n df B D (fun i => listed.getD i false) a → (∀ a', Kn n df B D (fun j => (listed.setIfInBounds i true).getD j false) a' → K a' w) → ∀ Q, wpOpIn (FW r) m P ops Q i K a w := by
    intro listed a i K hsz hi hk hK Q
    obtain ⟨_, x, hx, hal⟩ := mem_ready.1 hi
    have hin : i < ops.size := (Array.getElem?_eq_some_iff.1 hx).1
    obtain ⟨g1, g2, g3⟩ := hg i x hx
    obtain ⟨p, hp⟩ : ∃ p, D[i]? = some p := ⟨_, List.getElem?_eq_getElem (by omega)⟩
    have hex := hst i x p _ a hx hp (fun e he hb => hal e he hb) hk
    unfold wpOpIn
    rw [hx]
    simp only
    rw [if_pos (by simp [Region.wanted, g1])]
    refine ⟨fun _ _ => trivial, ?_⟩
    rw [Oper.semAt_eq _ _ _ g2, hex]
    show K (a.put x.dst p.2) w
    rw [g3 p hp]
    refine hK _ (hk.put hp (fun j hj => ?_) hn (fun q hq => hB q hq p (List.mem_of_getElem? hp)) (hs p (List.mem_of_getElem? hp)))
    by_cases hji : j = i
    · exact .inr hji
    · rw [getD_set_ne false (Ne.symm hji)] at hj; exact .inl hj
  intro fuel
  induction fuel with
  | zero =>
    intro listed a hsz hc hk
    have h0 : Region.ready .any ops listed = [] := by
      cases hq : Region.ready .any ops listed with
      | nil => rfl
      | cons j js =>
        have hj : j ∈ Region.ready .any ops listed := by rw [hq]; exact List.mem_cons_self ..
        obtain ⟨h0, x, hx, _⟩ := mem_ready.1 hj
        have hjn : j < ops.size := (Array.getElem?_eq_some_iff.1 hx).1
        have := List.countP_eq_zero.1 (Nat.le_zero.1 hc) j (List.mem_range.2 hjn)
        rw [false_of_true h0] at this
        exact absurd rfl this
    exact ⟨h0, rfl, rfl, hdone listed a hsz h0 hk⟩
  | succ fuel ih =>
    intro listed a hsz hc hk
    refine ⟨fun h0 => ⟨rfl, rfl, hdone listed a hsz h0 hk⟩, fun i hi => hstep listed a i _ hsz hi hk (fun a' hk' => ih _ a' (by simp [hsz]) ?_ hk') _⟩
    obtain ⟨h0, x, hx, _⟩ := mem_ready.1 hi
    have hin : i < ops.size := (Array.getElem?_eq_some_iff.1 hx).1
    have := countP_lt (l := List.range ops.size) (p := fun j => !listed.getD j false) (q := fun j => !(listed.setIfInBounds i true).getD j false) (fun j _ hj => by
      by_cases hji : j = i
      · subst hji
        rw [Array.getD_eq_getD_getElem?, Array.getElem?_setIfInBounds] at hj
        simp [hsz, hin] at hj
      · rw [getD_set_ne false (Ne.symm hji)] at hj; exact hj) ⟨i, List.mem_range.2 hin, by rw [false_of_true h0]; rfl, by
        rw [Array.getD_eq_getD_getElem?, Array.getElem?_setIfInBounds]
        simp [hsz, hin]⟩
    omega
/-- A state told anew. -/
theorem den_new {σ : Env} {n : Nat} {tm : List (Nat × TV)} {rows : List (Nat × Row)} {a : Act} {w w0 : World} {wl : List Nat} {mk K : List Nat} (hsz : a.tmps.size = n) (hdf : a.defers = mk.map markD) (hmk : MkOk w0.heap.size w mk) (hko : KeepsOthers w0 w) (hf : Fr w0 wl w)
    (ht : ∀ p ∈ tm, a.tmps[p.1]? = some (p.2.val σ) ∧ p.2.ok) (hi : idsOk tm rows [] = true) (hr : ∀ p ∈ rows, RowAt σ p.1 p.2 w ∧ pok p.2.ps) (hds : ∀ p ∈ rows, ∀ q ∈ rows, p.1 ≠ q.1 → p.2.w = true → (σ p.1).1 ≠ (σ q.1).1) (hw : ∀ p ∈ rows, p.2.w = true → w0.heap.size ≤ (σ p.1).1 ∨ (σ p.1).1 ∈ wl) (hK : K.all (hasN (rows.map (·.1))) = true) (hk5 : rows.all (fun p => Nat.ble (p.1 + 1) 500 || Nat.ble 1000 p.1) = true) :
    Den w0 ⟨wl, σ, K⟩ σ (mkSt n tm rows [] mk) a w := by
  simp only [idsOk, Bool.and_eq_true, List.all_eq_true] at hi
  have hu : ∀ r, (mkSt n tm rows [] mk).used r = hasN (rows.map (·.1)) r := fun r => by show hasN (rows.map (·.1) ++ []) r = _; rw [List.append_nil]
  refine ⟨hsz, hdf, hmk, hko, fun t x hx => ?_, fun r y hr2 => ?_, fun r q y z hr2 hq hrq hw2 => ?_, hf, fun _ _ => rfl, fun r hr2 => ?_, fun g hg hug => ?_, fun r B h => by cases h⟩
  · have hm := findT_mem (show findT tm t = some x from hx)
    obtain ⟨h1, h2⟩ := ht _ hm
    exact ⟨h1, h2, fun r hr2 => hi.1 _ hm r hr2⟩
  · have hm := findR_mem (show findR rows r = some y from hr2)
    obtain ⟨g1, g2⟩ := hr _ hm
    exact ⟨g1, g2, by rw [hu]; exact hasN_iff.2 (List.mem_map.2 ⟨_, hm, rfl⟩), fun p hp => hi.2 _ hm p hp, fun hw2 => hw _ hm hw2⟩
  · exact hds _ (findR_mem (show findR rows r = some y from hr2)) _ (findR_mem (show findR rows q = some z from hq)) hrq hw2
  · rw [hu]; exact List.all_eq_true.1 hK r hr2
  · rw [hu] at hug
    obtain ⟨p, hp, he⟩ := List.mem_map.1 (hasN_iff.1 hug)
    have := List.all_eq_true.1 hk5 p hp
    rw [Bool.or_eq_true] at this
    rcases this with h5 | h5 <;> have := Nat.le_of_ble_eq_true h5 <;> omega
end Go.Proofs.YtdbbcngolcnniaaDoor.E
/- A call under a guard, by its contract; a run to an exit. No condition. -/
namespace Go.Proofs.YtdbbcngolcnniaaDoor.E
open Go Go.RowKit
set_option linter.unusedVariables false
set_option linter.unusedSimpArgs false
/-- Which function is called, with what, and where the answer goes. -/
def xCallG (ops : Array Oper) (m : Nat) (s : St) : Option (Tmp × FuncId × Array Value × Array Value × List TV) :=
  match ops[m]? with
  | some o => match guardOk (fun _ => none) 0 s ops o, o.dst, o.op with
    | some ([], true), some d, .call c => match c.callee with
      | .value y => match evalO s y, evalL s c.args.toList with
        | some (.s (.lf (.v (.func (.func f) fi ca)))), some vs => some (d, f, fi, ca, vs)
        | _, _ => none
      | _ => none
    | _, _, _ => none
  | none => none
theorem xCallG_ok {P : Program} {ops : Array Oper} {m : Nat} {s : St} {d : Tmp} {f : FuncId} {fi ca : Array Value} {vs : List TV} {w0 : World} {wr : Bs} {ρ : Env} {a : Act} {w : World} {Q : Exit → Act → World → Prop} {K : Act → World → Prop} {r : Option Nat} {n : Nat} (h : xCallG ops m s = some (d, f, fi, ca, vs)) (hd : Den w0 wr ρ s a w) (he : Enters P f)
    (hc : Calls P f (fi ++ (vs.map (TV.val ρ)).toArray ++ ca) w fun e w' => ∃ v, e = .returned v ∧ K (a.put (some d) v) w') : wpOpIn (FW r) n P ops Q m K a w := by
  unfold xCallG at h
  split at h
  · rename_i o ho
    split at h
    · rename_i d2 c hg hdst hop
      split at h
      · rename_i y hcal
        split at h
        · rename_i f2 fi ca vs2 hy hvs
          cases h
          have h1 := (evalO_ok hd hy).1
          have h2 := (evalL_ok hd hvs).1
          unfold wpOpIn
          rw [ho]
          simp only
          rw [if_pos (guardOk_ok hd hg trivial)]
          refine ⟨fun _ _ => trivial, ?_⟩
          rw [Oper.semAt_eq _ _ _ (by rw [hop]; intro c hc; cases hc)]
          have h3 : c.args.map a.eval = (vs.map (TV.val ρ)).toArray := by
            apply Array.ext'
            rw [Array.toList_map, h2]
          have hrun : (execOp a.eval o).run P w = .ok (.enter f (fi ++ (vs.map (TV.val ρ)).toArray ++ ca)) w := by
            unfold execOp
            rw [hop]
            simp only [resolve, hcal, h1, TV.val, SV.val, Lf.val, h3, Deferred.ofValue, Sem.run_bind, Sem.run_pure, Result.andThen_ok, invoke, Array.append_empty, Array.empty_append]
            exact he _ w
          rw [hrun]
          refine ⟨fun h => by simp [FW, Fence.wide] at h, CallsIn.mono (callsIn_FW hc) ?_⟩
          rintro e w' ⟨v, rfl, hk⟩
          rw [hdst]
          exact hk
        · cases h
      · cases h
    · cases h
  · cases h

/-- A run to an exit. -/
theorem At.finQ {r : Option Nat} {mk : List Nat} {kn : List (Nat × Blk)} {P : Program} {w0 : World} {wr : Bs} {n : Nat} {gl : List Nat} {todo : List Item} {Q : Exit → Act → World → Prop} {tm : List (Nat × TV)} {rows rows2 : List (Nat × Row)} {ob : List Prop} {e : Exit} (hm : P.follows .mixedOrders = true) (cs : List (Nat × Hint)) (hC : allW P w0 wr cs) (π : List Ch)
    (h : runE P (findC cs) π todo (mkSt n tm rows gl mk kn) [] (rows2.map (·.1)) = some (ob, e, [], rows2.map fun p => some p.2)) (ho : all ob)
    (hQ : ∀ a ρ w, KeepsOthers w0 w → Fr w0 wr.l w → (∀ r, r < 1000 → ρ r = wr.e r) → (∀ p ∈ rows2, RowAt ρ p.1 p.2 w ∧ pok p.2.ps ∧ (p.2.w = true → w0.heap.size ≤ (ρ p.1).1 ∨ (ρ p.1).1 ∈ wr.l)) → Q e a w) : At P w0 wr n gl todo Q tm rows r mk kn := by
  intro a w ρ hd
  unfold runE at h
  split at h
  · rename_i o1 e1 t hg
    simp only [Option.some.injEq, Prod.mk.injEq] at h
    obtain ⟨rfl, rfl, _, e2⟩ := h
    refine go_ok hm (findW_ok hC) 10000 π todo _ o1 (.fin e1) t hg ho (fun a w ρ hd => ?_) a w ρ hd
    refine hQ a ρ w hd.ko hd.fr (fun r hr => hd.e0 r (.inl hr)) fun p hp => ?_
    rw [List.map_map] at e2
    have := (List.map_inj_left.1 e2) p hp
    obtain ⟨k1, k2, _, _, k5⟩ := hd.rw p.1 p.2 this
    exact ⟨k1, k2, k5⟩
  · cases h
end Go.Proofs.YtdbbcngolcnniaaDoor.E
/- The engine: to the end, with what parts the rows that are left. No condition of its own. -/
namespace Go.Proofs.YtdbbcngolcnniaaDoor.E
set_option linter.unusedSimpArgs false
open Go Go.RowKit
set_option linter.unusedVariables false
theorem At.finD {r : Option Nat} {mk : List Nat} {kn : List (Nat × Blk)} {P : Program} {w0 : World} {wr : Bs} {n : Nat} {gl : List Nat} {todo : List Item} {fn : Func} {R : Ending → World → Prop} {tm : List (Nat × TV)} {rows rows2 : List (Nat × Row)} {ob : List Prop} {x : TV} (hm : P.follows .mixedOrders = true) (cs : List (Nat × Hint)) (hC : allW P w0 wr cs) (π : List Ch)
    (h : wholeR P (findC cs) fn.results π todo (mkSt n tm rows gl mk kn) (rows2.map (·.1)) = some (ob, x, rows2.map fun p => some p.2)) (ho : all ob)
    (hR : ∀ ρ w, Fr w0 wr.l w → (∀ r, r < 1000 → ρ r = wr.e r) → x.ok → (∀ p ∈ rows2, RowAt ρ p.1 p.2 w ∧ pok p.2.ps ∧ (p.2.w = true → w0.heap.size ≤ (ρ p.1).1 ∨ (ρ p.1).1 ∈ wr.l)) → (∀ p ∈ rows2, ∀ q ∈ rows2, p.1 ≠ q.1 → p.2.w = true → (ρ p.1).1 ≠ (ρ q.1).1) → R (.returned (x.val ρ)) w) : At P w0 wr n gl todo (EndX P fn R) tm rows r mk kn := by
  intro a w ρ hd
  unfold wholeR at h
  split at h
  · rename_i o1 e t hg
    split at h
    · rename_i o2 x2 he hr
      simp only [Option.some.injEq, Prod.mk.injEq] at h
      obtain ⟨rfl, rfl, e2⟩ := h
      obtain ⟨ho1, ho2⟩ := all_append.1 ho
      refine go_ok (w0 := w0) (wr := wr) (Q := EndX P fn R) hm (findW_ok hC) 10000 π todo _ o1 (.fin e) t hg ho1 (fun a w ρ hd => ?_) a w ρ hd
      have e3 : ∀ p ∈ rows2, t.row p.1 = some p.2 := fun p hp => by
        rw [List.map_map] at e2
        exact (List.map_inj_left.1 e2) p hp
      refine ⟨isEnd_ok he, end_ok hd hr ho2 fun w' hd g2 => hR ρ w' hd.fr (fun r hr => hd.e0 r (.inl hr)) g2 (fun p hp => ?_) fun p hp q hq hne hw => hd.ds p.1 q.1 p.2 q.2 (e3 p hp) (e3 q hq) hne hw⟩
      obtain ⟨k1, k2, _, _, k5⟩ := hd.rw p.1 p.2 (e3 p hp)
      exact ⟨k1, k2, k5⟩
    · cases h
  · cases h
end Go.Proofs.YtdbbcngolcnniaaDoor.E
/- The engine: rows under other numbers (a round that makes a row anew). No condition of its own. -/
namespace Go.Proofs.YtdbbcngolcnniaaDoor.E
set_option linter.unusedSimpArgs false
open Go Go.RowKit
set_option linter.unusedVariables false
def isLf : TV → Bool
  | .s (.lf _) => true
  | _ => false
def TV.renS (m : List (Nat × Nat)) : TV → TV
  | .s (.lf x) => .s (.lf (x.ren m))
  | y => y
theorem findT_map {g : TV → TV} {t : Nat} : ∀ {l : List (Nat × TV)} {x : TV}, findT l t = some x → findT (l.map fun p => (p.1, g p.2)) t = some (g x)
  | [], _, h => by cases h
  | p :: l, x, h => by
    unfold findT at h
    rw [List.map_cons]
    unfold findT
    cases hb : Nat.beq p.1 t with
    | true => rw [hb] at h; cases h; rfl
    | false => rw [hb] at h; exact findT_map (l := l) h
/-- Rows under other numbers (m: a row's number there, its number here). -/
theorem At.ren {r : Option Nat} {mk : List Nat} {P : Program} {w0 : World} {wr : Bs} {n : Nat} {gl : List Nat} {todo : List Item} {Q : Exit → Act → World → Prop} (m : List (Nat × Nat)) (tm2 : List (Nat × TV)) (rows2 : List (Nat × Row))
    (hlf : tm2.all (fun p => isLf p.2) = true) (hid : idsOk tm2 rows2 gl = true) (hmo : renOk m wr.k = true) (hnd : nodupB (rows2.map fun p => renL m p.1) = true) (h5 : wr.k.all (hasN (rows2.map (·.1) ++ gl.map (500 + ·))) = true)
    (h : At P w0 wr n gl todo Q tm2 rows2 r mk) : At P w0 wr n gl todo Q (tm2.map fun p => (p.1, p.2.renS m)) (rows2.map fun p => (renL m p.1, p.2.ren m)) r mk := by
  intro a w ρ hd
  have hN := nodupB_ok hnd
  have hinj : ∀ p ∈ rows2, ∀ q ∈ rows2, renL m p.1 = renL m q.1 → p.1 = q.1 := by
    clear hid h5 h hd hnd
    induction rows2 with
    | nil => intro p hp; cases hp
    | cons x l ih =>
      rw [List.map_cons, List.nodup_cons] at hN
      intro p hp q hq he
      rcases List.mem_cons.1 hp with e1 | hp <;> rcases List.mem_cons.1 hq with e2 | hq
      · rw [e1, e2]
      · exact absurd (List.mem_map.2 ⟨q, hq, by rw [← he, e1]⟩) hN.1
      · exact absurd (List.mem_map.2 ⟨p, hp, by rw [he, e2]⟩) hN.1
      · exact ih hN.2 p hp q hq he
  have hrow : ∀ q y, findR rows2 q = some y → (q, y) ∈ rows2 ∧ findR (rows2.map fun p => (renL m p.1, p.2.ren m)) (renL m q) = some (y.ren m) := fun q y hy => by
    have hm := findR_mem hy
    refine ⟨hm, ?_⟩
    have hN2 : ((rows2.map fun p => (renL m p.1, p.2.ren m)).map (·.1)).Nodup := by rw [List.map_map]; exact hN
    exact findR_nodup (p := (renL m q, y.ren m)) hN2 (List.mem_map.2 ⟨_, hm, rfl⟩)
  have hids := hid
  unfold idsOk at hids
  rw [Bool.and_eq_true] at hids
  refine h a w (fun q => ρ (renL m q)) ⟨hd.sz, hd.df, hd.mf, hd.ko, fun t x hx => ?_, fun q y hy => ?_, fun q u y z hy hz hqu hw => ?_, hd.fr, fun q hq => ?_, fun q hq => List.all_eq_true.1 h5 q hq, fun g hg hu => ?_, fun q B hq => by cases hq⟩
  · have hp := findT_mem hx
    obtain ⟨g1, g2, _⟩ := hd.tm t _ (findT_map (g := TV.renS m) hx)
    have hl : isLf x = true := List.all_eq_true.1 hlf _ hp
    have hu : x.ids.all (hasN (rows2.map (·.1) ++ gl.map (500 + ·))) = true := List.all_eq_true.1 hids.1 _ hp
    cases x with
    | tup _ => cases hl
    | s sv =>
      cases sv with
      | lf x =>
        refine ⟨by rw [g1]; show some ((Lf.ren m x).val ρ) = _; rw [Lf.ren_val]; rfl, ?_, fun q hq => List.all_eq_true.1 hu q hq⟩
        cases x <;> exact g2
      | agg _ => cases hl
      | un => cases hl
  · obtain ⟨hm, hf⟩ := hrow q y hy
    obtain ⟨g1, g2, g3, g4, g5⟩ := hd.rw _ _ hf
    refine ⟨RowAt.ren g1, pok_ren g2, hasN_iff.2 (List.mem_append.2 (.inl (List.mem_map.2 ⟨_, hm, rfl⟩))), fun u hu => ?_, g5⟩
    exact List.all_eq_true.1 (List.all_eq_true.1 hids.2 _ hm) u hu
  · obtain ⟨hm, hf⟩ := hrow q y hy
    obtain ⟨hm2, hf2⟩ := hrow u z hz
    exact hd.ds _ _ _ _ hf hf2 (fun e => hqu (hinj _ hm _ hm2 e)) hw
  · show ρ (renL m q) = _
    rw [renL_fix hmo hq]
    exact hd.e0 q hq
  · show ρ (renL m (500 + g)) = _
    rw [renL_fix hmo (.inl (by omega))]
    refine hd.gl g hg ?_
    rcases List.mem_append.1 (hasN_iff.1 hu) with hu | hu
    · obtain ⟨p, hp, e⟩ := List.mem_map.1 hu
      refine hasN_iff.2 (List.mem_append.2 (.inl ?_))
      rw [List.map_map]
      exact List.mem_map.2 ⟨p, hp, by show renL m p.1 = _; rw [e, renL_fix hmo (.inl (by omega))]⟩
    · exact hasN_iff.2 (List.mem_append.2 (.inr hu))
end Go.Proofs.YtdbbcngolcnniaaDoor.E
