/- Several texts, one behind the other; each says by itself what it proves, and on what conditions. -/
import Derived.Test.YtdbbcngolcnniaaDoorX11
import Derived.Test.YtdbbcngolcnniaaDoorProg
import Derived.RangeFuncNested
import Derived.RangeFuncBound
import Derived.RangeFuncCalls
import Derived.RangeFuncLeaves
import Derived.Shelf.Abstract
import Derived.Shelf.RegionOpen
import Derived.WalkKit
import Derived.OwnWalkIn
import Derived.TacticsInMore
import Derived.LoopNIn
import Derived.LoopIn
import Derived.StillTail
/- A range over a function whose rounds turn one block that is no row (a map): what holds of the world is handed on from round to round; behind it nothing is known but that. -/
namespace Go.Proofs.YtdbbcngolcnniaaDoor
open Go Go.RowKit
set_option linter.unusedVariables false
set_option linter.unusedSimpArgs false
section
open E
theorem den_anew {w0 : World} {wr : Bs} {ρ : Env} {n : Nat} {tm : List (Nat × TV)} {rows : List (Nat × Row)} {gl K : List Nat} {a : Act} {w W : World} (hd : Den w0 wr ρ (mkSt n tm rows gl []) a w) (hk : ∀ r ∈ K, hasN (rows.map (·.1) ++ gl.map (500 + ·)) r = true)
    (hR : ∀ r row, findR rows r = some row → RowAt ρ r row W) : Den W ⟨wlOf ρ rows, ρ, K⟩ ρ (mkSt n tm rows gl) { tmps := a.tmps, defers := [] } W :=
  ⟨hd.sz, rfl, ⟨List.nodup_nil, fun D hD => by cases hD⟩, KeepsOthers.refl _, hd.tm, fun r row hr => ⟨hR r row hr, (hd.rw r row hr).2.1, (hd.rw r row hr).2.2.1, (hd.rw r row hr).2.2.2.1, fun hw => .inr (mem_wlOf (findR_mem hr) hw)⟩, hd.ds, Fr.refl _ _, fun _ _ => rfl, hk, hd.gl, fun r B h => by cases h⟩
theorem E.At.rangeM {P : Program} {w0 : World} {e : Env} {kk : List Nat} {n : Nat} {gl : List Nat} {k : List Item} {Q : Exit → Act → World → Prop} {tm : List (Nat × TV)} {rows : List (Nat × Row)} {α : Type} {g : Operand} {ps : Array Tmp} {assign body : Code} {al : List (Tmp × Operand)} {gf : FuncId} {rs : List Nat}
    (mb : Nat) (K kr : List Nat) (X : List α → World → Prop) (vx : α → List TV) {S Sp : List α → Prop} {N : Nat} (tmB : α → List (Nat × TV))
    (hg : evalO (mkSt n tm rows gl) g = some (.s (.lf (.clo gf rs)))) (he : Enters P gf) (ha : asg assign = some al)
    (hseq : ∀ (ρ : Env) (w : World), (∀ r row, findR rows r = some row → RowAt ρ r row w) → SeqStopsK (FW none) 5 P gf (rs.map fun r => Value.pointer (some ⟨(ρ r).1, (ρ r).2, none⟩)).toArray (fun x => ((vx x).map (TV.val ρ)).toArray) (fun W W' => ∀ r ∈ kr, W'.heap[(ρ r).1]? = W.heap[(ρ r).1]?) S Sp N w)
    (hnd : nodupB (rows.map (·.1)) = true) (hK : rngOk tm rows gl kk K kr = true) (hkr : ronly rows kr = true) (hids : idsOk tm rows gl = true)
    (hvx : ∀ x, (vx x).length = ps.size ∧ okL (vx x) ∧ (vx x).all (fun v => v.ids.all (hasN K)) = true)
    (hB : ∀ x, beg ps al (vx x) (mkSt n tm rows gl) ((tmB x).map (·.1)) = some ((tmB x).map fun p => some p.2))
    (hX0 : ∀ w, Fr w0 [] w → X [] w) (hXm : ∀ s W, X s W → ∃ es c, W.heap[mb]? = some (.map es c)) (hXk : ∀ s W W', X s W → W'.heap[mb]? = W.heap[mb]? → X s W')
    (hbody : ∀ (l : Nat) (pre : List α) (x : α) (W : World) (ρ : Env), pre.length < N → X pre W → At P W ⟨wlOf ρ rows, ρ, K⟩ n gl [.code body] (fun e _ W' => e = .normal ∧ Fr W [mb] W' ∧ X (pre ++ [x]) W') (tmB x) rows (some l) [])
    (hdone : ∀ D xs a W, S xs → X xs W → Fr w0 [mb] W → w0.heap.size ≤ D → W.heap[D]? = some (.deferred (some [])) → a.defers = [{ target := .collected D, args := #[] }] → KX P none k Q a W) :
    At P w0 ⟨[], e, kk⟩ n gl (.code (.rangeFunc g ps assign body) :: k) Q tm rows none [] := by
  intro a w ρ hd
  have hx0 := hX0 w hd.fr
  obtain ⟨es0, c0, hmap⟩ := hXm _ _ hx0
  have hmlt : mb < w.heap.size := (Array.getElem?_eq_some_iff.1 hmap).1
  have hg' := (evalO_ok hd hg).1
  have hN := nodupB_ok hnd
  have hK2 := hK
  simp only [rngOk, Bool.and_eq_true, List.all_eq_true] at hK2
  obtain ⟨k1, k2, k3, k4⟩ := hK2
  have hne : ∀ r row, findR rows r = some row → (ρ r).1 ≠ mb := fun r row hr he => by
    obtain ⟨cur, t, fz, hcur⟩ := (hd.rw r row hr).1.2.2.2
    rw [he, hmap] at hcur; cases hcur
  have hrow : ∀ W, Fr w [mb] W → ∀ r row, findR rows r = some row → RowAt ρ r row W := fun W hW r row hr => rowAt_keep (hd.rw r row hr).1 hW.size (hW.block _ (hd.rw r row hr).1.1 fun h => hne r row hr (List.mem_singleton.1 h))
  refine KX.codeR (n := 6) ?_
  refine wpIn_rangeFunc_ownH (F := FW none) rfl (by omega) (gf := gf) (lb := (rs.map fun r => Value.pointer (some ⟨(ρ r).1, (ρ r).2, none⟩)).toArray) hg' trivial he (hseq ρ w fun r row hr => (hd.rw r row hr).1)
    (fun h1 h2 r hr => (h2 r hr).trans (h1 r hr)) (fun W l o o' hl ho _ _ r hr => World.putObj_heap_other fun e => ?_) (Below.refl _ _) (fun x => ?_)
    (fun pre W => Fr w [mb] W ∧ X pre W) (fun c pre W => False) (fun s W W' row hI hgr hr => ?_) (fun c s W W' row hI hgr hr => hI.elim) ⟨Fr.refl _ _, hx0⟩
    (fun x a' _ => a' = asgA al { tmps := (ps.zip ((vx x).map (TV.val ρ)).toArray).foldl (fun t (p, v) => t.setIfInBounds p v) a.tmps, defers := [] }) (fun x a' _ _ _ _ h _ _ => h) (fun l pre x W K' hi hK' => asg_ok ha (hK' _ _ (KeepsFrom.refl _ _) (fun _ _ => rfl) hi rfl)) ?_ ?_ ?_
  · have h1 := List.all_eq_true.1 hkr r hr
    cases hf : findR rows r with
    | none => rw [hf] at h1; cases h1
    | some row =>
      have := (hd.rw r row hf).1.1
      omega
  · simp [(hvx x).1]
  · obtain ⟨hF, hX⟩ := hI
    obtain ⟨g1, g2, g3, g4, g5⟩ := hgr
    have hnr : ∀ i, i < w.heap.size → some i ≠ row := fun i hi e => by
      have := (hr i e.symm).1
      omega
    exact ⟨⟨g1.trans hF.os, g2.trans hF.tape, g3.trans hF.output, Nat.le_trans hF.size g4, fun i hi hn => (g5 i (Nat.lt_of_lt_of_le hi hF.size) (hnr i hi)).trans (hF.block i hi hn)⟩, hXk _ _ _ hX (g5 mb (Nat.lt_of_lt_of_le hmlt hF.size) (hnr mb hmlt))⟩
  · rintro l pre x a2 W hlB hlr ⟨hF, hXp⟩ rfl hlen
    have hb := den_anew (K := K) hd k3 (hrow W hF)
    have hbeg := hB x
    unfold beg at hbeg
    split at hbeg
    · rename_i s1 hs1
      split at hbeg
      · rename_i t ht
        simp only [Option.some.injEq] at hbeg
        have hvK : ∀ v ∈ vx x, v.ok ∧ ∀ r ∈ v.ids, (mkSt n tm rows gl).used r = true := fun v hv => ⟨okL_mem (hvx x).2.1 v hv, fun r hr => hb.ku r (hasN_iff.1 (List.all_eq_true.1 (List.all_eq_true.1 (hvx x).2.2 v hv) r hr))⟩
        have hb1 := parS_ok hs1 hb hvK
        have hb2 := asgS_ok ht hb1
        obtain ⟨f1, rfl⟩ := parS_keep hs1
        obtain ⟨f2, rfl⟩ := asgS_keep ht
        have hfold : (ps.zip ((vx x).map (TV.val ρ)).toArray).foldl (fun t (p, v) => t.setIfInBounds p v) a.tmps = (ps.toList.zip ((vx x).map (TV.val ρ))).foldl (fun t (p : Tmp × Value) => t.setIfInBounds p.1 p.2) a.tmps := by
          rw [← Array.foldl_toList, Array.toList_zip]
        rw [hfold]
        have hin : Den W ⟨wlOf ρ rows, ρ, K⟩ ρ (mkSt n (tmB x) rows gl) (asgA al { tmps := (ps.toList.zip ((vx x).map (TV.val ρ))).foldl (fun t (p : Tmp × Value) => t.setIfInBounds p.1 p.2) a.tmps, defers := [] }) W := by
          refine ⟨hb2.sz, hb2.df, hb2.mf, hb2.ko, fun q y hy => hb2.tm q y ?_, hb2.rw, hb2.ds, hb2.fr, hb2.e0, hb2.ku, hb2.gl, hb2.kn⟩
          rw [List.map_map] at hbeg
          exact (List.map_inj_left.1 hbeg) _ (findT_mem hy)
        refine wpIn_mono ((hbody l pre x W ρ hlen hXp _ W ρ hin).wpIn (n := 6 - 1 - 1)) ?_
        rintro e2 a' W' ⟨rfl, hF2, hxn⟩
        refine ⟨?_, ?_, ?_, hxn⟩
        · exact ⟨hF2.size, fun i o hi h1 h2 => (hF2.block i (Array.getElem?_eq_some_iff.1 h1).1 fun hm => by
            have := List.mem_singleton.1 hm
            omega).trans h1⟩
        · intro r hr
          have h1 := List.all_eq_true.1 hkr r hr
          cases hf : findR rows r with
          | none => rw [hf] at h1; cases h1
          | some row => exact hF2.block _ (Nat.lt_of_lt_of_le (hd.rw r row hf).1.1 hF.size) fun hm => hne r row hf (List.mem_singleton.1 hm)
        · exact hF.comp hF2 fun y hy => .inl hy
      · cases hbeg
    · cases hbeg
  · rintro D xs W hD hS ⟨hF, hXs⟩ hDb
    have hf0 : Fr w0 [mb] w := hd.fr.widen fun y hy => by cases hy
    exact hdone D xs _ W hS hXs (hf0.comp hF fun y hy => .inl hy) (Nat.le_trans hd.fr.size hD) hDb (by simp [hd.df, mkSt])
  · intro D c pre W hD hS hI hDb
    exact hI.elim
theorem E.At.rangeMAt {P : Program} {w0 : World} {e : Env} {kk : List Nat} {n : Nat} {gl : List Nat} {todo : List Item} {Q : Exit → Act → World → Prop} {tm : List (Nat × TV)} {rows : List (Nat × Row)} {α : Type} {gf : FuncId} {rs : List Nat}
    (mb : Nat) (K kr : List Nat) (X : List α → World → Prop) (vx : α → List TV) {S Sp : List α → Prop} {N : Nat} (tmB : α → List (Nat × TV)) (hr : isRng todo = true)
    (hg : evalO (mkSt n tm rows gl) (hdG todo) = some (.s (.lf (.clo gf rs)))) (he : Enters P gf)
    (hseq : ∀ (ρ : Env) (w : World), (∀ r row, findR rows r = some row → RowAt ρ r row w) → SeqStopsK (FW none) 5 P gf (rs.map fun r => Value.pointer (some ⟨(ρ r).1, (ρ r).2, none⟩)).toArray (fun x => ((vx x).map (TV.val ρ)).toArray) (fun W W' => ∀ r ∈ kr, W'.heap[(ρ r).1]? = W.heap[(ρ r).1]?) S Sp N w)
    (hnd : nodupB (rows.map (·.1)) = true) (hK : rngOk tm rows gl kk K kr = true) (hkr : ronly rows kr = true) (hids : idsOk tm rows gl = true)
    (hvx : ∀ x, (vx x).length = (hdPs todo).size ∧ okL (vx x) ∧ (vx x).all (fun v => v.ids.all (hasN K)) = true)
    (hB : ∀ x, beg (hdPs todo) (alOf todo) (vx x) (mkSt n tm rows gl) ((tmB x).map (·.1)) = some ((tmB x).map fun p => some p.2))
    (hX0 : ∀ w, Fr w0 [] w → X [] w) (hXm : ∀ s W, X s W → ∃ es c, W.heap[mb]? = some (.map es c)) (hXk : ∀ s W W', X s W → W'.heap[mb]? = W.heap[mb]? → X s W')
    (hbody : ∀ (l : Nat) (pre : List α) (x : α) (W : World) (ρ : Env), pre.length < N → X pre W → At P W ⟨wlOf ρ rows, ρ, K⟩ n gl [.code (hdBody todo)] (fun e _ W' => e = .normal ∧ Fr W [mb] W' ∧ X (pre ++ [x]) W') (tmB x) rows (some l) [])
    (hdone : ∀ D xs a W, S xs → X xs W → Fr w0 [mb] W → w0.heap.size ≤ D → W.heap[D]? = some (.deferred (some [])) → a.defers = [{ target := .collected D, args := #[] }] → KX P none todo.tail Q a W) :
    At P w0 ⟨[], e, kk⟩ n gl todo Q tm rows none [] := by
  obtain ⟨e1, al, e2⟩ := isRng_ok hr
  have e3 : alOf todo = al := by unfold alOf; rw [e2]
  rw [e3] at hB
  rw [e1]
  exact E.At.rangeM mb K kr X vx tmB hg he e2 hseq hnd hK hkr hids hvx hB hX0 hXm hXk hbody hdone
/-- As At.opX; the operation may have no destination. -/
theorem E.At.opY {α : Type} {P : Program} {w0 : World} {wr : Bs} {n : Nat} {gl : List Nat} {todo : List Item} {Q : Exit → Act → World → Prop} {tm tm1 : List (Nat × TV)} {rows rows1 : List (Nat × Row)} {r : Option Nat} {mk : List Nat} {o1 : List Prop} {o2 : α → List Prop}
    (m : Nat) (d : Option Tmp) (cs : List (Nat × Hint)) (hC : allC P cs) (w0' : α → World) (wr' : α → Bs) (tm2 tm3 : α → List (Nat × TV)) (rows2 rows3 : α → List (Nat × Row)) (I : α → Prop) (hr : isReg todo = true)
    (h1 : op1 P (findC cs) (hdOps todo) (1000 + hdRid todo * 1000) m (mkSt n tm rows gl mk) (tm1.map (·.1)) (rows1.map (·.1)) = some (o1, tm1.map (fun p => some p.2), rows1.map fun p => some p.2)) (ho1 : all o1)
    (hs : (noDef (hdOps todo) && (Nat.ble (m + 1) (hdOps todo).size && (gl.all (fun g => Nat.ble (g + 1) 500) && (idsOk tm1 rows1 gl && wr.k.all (hasN (rows1.map (·.1) ++ gl.map (500 + ·))))))) = true)
    (hop : ∀ a w ρ (K : Act → World → Prop) (QQ : Exit → Act → World → Prop), Den w0 wr ρ (mkSt n tm1 rows1 gl mk) a w → (∀ x v w' ρ', I x → Den (w0' x) (wr' x) ρ' (mkSt n (tm2 x) (rows2 x) gl mk) (a.put d v) w' → K (a.put d v) w') → wpOpIn (FW r) 5 P (hdOps todo) QQ m K a w)
    (h2 : ∀ x, I x → call2 P (findC cs) (hdOps todo) (1000 + hdRid todo * 1000) m (mkSt n (tm2 x) (rows2 x) gl mk) ((tm3 x).map (·.1)) ((rows3 x).map (·.1)) = some (o2 x, (tm3 x).map (fun p => some p.2), (rows3 x).map fun p => some p.2))
    (ho2 : ∀ x, I x → all (o2 x)) (hs2 : ∀ x, (idsOk (tm3 x) (rows3 x) gl && (wr' x).k.all (hasN ((rows3 x).map (·.1) ++ gl.map (500 + ·)))) = true)
    (hK : ∀ x, I x → At P (w0' x) (wr' x) n gl todo.tail Q (tm3 x) (rows3 x) r mk) : At P w0 wr n gl todo Q tm rows r mk := by
  rw [isReg_ok hr]
  intro a w ρ hd
  generalize hdOps todo = ops at *
  generalize hdRid todo = rid at *
  simp only [Bool.and_eq_true] at hs
  obtain ⟨hnd, hms, hg, hi1, hk1⟩ := hs
  have hms := Nat.le_of_ble_eq_true hms
  have hC2 : ∀ {W : World} {wq : Bs}, ∀ id c, findC cs id = some c → HintAt P W wq id c := findC_at hC
  unfold op1 at h1
  split at h1
  · rename_i p1 s1 hr1
    simp only [Option.some.injEq, Prod.mk.injEq] at h1
    obtain ⟨rfl, e1, e2⟩ := h1
    obtain ⟨k1, k2⟩ := runL_keep hr1
    refine KX.code (n := 5) (K := fun a w => KX P r todo.tail Q a w) (wpIn_region ?_) fun a w h => h
    rw [show List.range ops.size = List.range' 0 m ++ (m :: List.range' (m + 1) (ops.size - (m + 1))) by
      rw [List.range_eq_range', ← List.range'_succ]
      have := List.range'_append_1 (s := 0) (m := m) (n := ops.size - (m + 1) + 1)
      rw [Nat.zero_add] at this
      rw [this]
      congr 1
      omega]
    refine wpOpsIn_append (K := fun a w => ∃ ρ, Den w0 wr ρ s1 a w) hnd (fun a w ⟨ρ, hd⟩ => ?_) _ a w (seq_ok hC2 (fun a w ρ hd => ⟨rfl, ρ, hd⟩) _ _ _ _ _ _ _ hr1 ho1 hd)
    rw [wpOpsIn_cons]
    have hd1 := den_mk (gl := gl) hd e1 e2 (fun g hgm => ⟨Nat.le_of_ble_eq_true (List.all_eq_true.1 hg g hgm), k2 _ (hasN_iff.2 (List.mem_append.2 (.inr (List.mem_map.2 ⟨g, hgm, rfl⟩))))⟩) hi1 hk1
    rw [k1.1, k1.2] at hd1
    refine hop a w ρ _ _ hd1 ?_
    intro x v w' ρ' hI hd2
    have h3 := h2 x hI
    unfold call2 at h3
    split at h3
    · rename_i p2 s2 hr2
      simp only [Option.some.injEq, Prod.mk.injEq] at h3
      obtain ⟨rfl, e3, e4⟩ := h3
      have hs3 := hs2 x
      rw [Bool.and_eq_true] at hs3
      refine rest_ok hnd hC2 hr2 (ho2 x hI) (fun a w ρ hd3 => ⟨rfl, ?_⟩) hd2
      obtain ⟨j1, j2⟩ := runL_keep hr2
      have := den_mk (gl := gl) hd3 e3 e4 (fun g hgm => ⟨Nat.le_of_ble_eq_true (List.all_eq_true.1 hg g hgm), j2 _ (hasN_iff.2 (List.mem_append.2 (.inr (List.mem_map.2 ⟨g, hgm, rfl⟩))))⟩) hs3.1 hs3.2
      rw [j1.1, j1.2] at this
      exact hK x hI a w ρ this
    · cases h3
  · cases h1

theorem E.xOp0_ok {P : Program} {ops : Array Oper} {r : Option Nat} {m : Nat} {K : Act → World → Prop} {QQ : Exit → Act → World → Prop} {a : Act} {w w' : World} {o : Oper} {v : Value} (hnd : noDef ops = true) (ho : ops[m]? = some o) (hg : o.guard = none)
    (h : (execOp a.eval o).run P w = .ok (.value v) w') (hK : K (a.put o.dst v) w') : wpOpIn (FW r) 5 P ops QQ m K a w := by
  unfold wpOpIn
  rw [ho]
  simp only
  rw [if_pos (by unfold Region.wanted; rw [hg])]
  exact wpIn_of_wp (noDef_ok hnd ho) (wp_val h hK)
def roR (rows : List (Nat × Row)) : List (Nat × Row) := rows.map fun p => (p.1, ⟨p.2.ps, false, p.2.cp⟩)
theorem roR_find : ∀ {rows : List (Nat × Row)} {r : Nat} {y : Row}, findR (roR rows) r = some y → ∃ x, findR rows r = some x ∧ y = ⟨x.ps, false, x.cp⟩
  | [], r, y, h => by cases h
  | p :: rows, r, y, h => by
    simp only [roR, List.map_cons, findR] at h ⊢
    cases hb : Nat.beq p.1 r with
    | true => rw [hb] at h; cases h; exact ⟨_, rfl, rfl⟩
    | false => rw [hb] at h; exact roR_find h
/-- From here on no row is written. -/
theorem E.At.ro {P : Program} {w0 : World} {wr : Bs} {n : Nat} {gl : List Nat} {todo : List Item} {Q : Exit → Act → World → Prop} {tm : List (Nat × TV)} {rows : List (Nat × Row)} {r : Option Nat} {mk : List Nat}
    (h : At P w0 wr n gl todo Q tm (roR rows) r mk) : At P w0 wr n gl todo Q tm rows r mk := by
  intro a w ρ hd
  have hkeys : (roR rows).map (·.1) = rows.map (·.1) := by simp [roR]
  have hu : ∀ s, (mkSt n tm (roR rows) gl mk).used s = (mkSt n tm rows gl mk).used s := fun s => by show hasN ((roR rows).map (·.1) ++ _) s = hasN (rows.map (·.1) ++ _) s; rw [hkeys]
  refine h a w ρ ⟨hd.sz, hd.df, hd.mf, hd.ko, fun t x hx => ?_, fun s y hs => ?_, fun s q y z hs hq hsq hw => ?_, hd.fr, hd.e0, fun s hs => by rw [hu]; exact hd.ku s hs, fun g hg hgu => hd.gl g hg (by rw [← hu]; exact hgu), fun s B hs => by cases hs⟩
  · obtain ⟨g1, g2, g3⟩ := hd.tm t x hx
    exact ⟨g1, g2, fun r hr => by rw [hu]; exact g3 r hr⟩
  · obtain ⟨x, hx, rfl⟩ := roR_find hs
    obtain ⟨g1, g2, g3, g4, _⟩ := hd.rw s x hx
    obtain ⟨k1, k2, k3, k4⟩ := g1
    exact ⟨⟨k1, fun j v hv => ⟨(k2 j v hv).1, fun h => by cases h⟩, k3, k4⟩, g2, by rw [hu]; exact g3, fun q hq => by rw [hu]; exact g4 q hq, fun hw => by cases hw⟩
  · obtain ⟨x, hx, rfl⟩ := roR_find hs
    cases hw
end
end Go.Proofs.YtdbbcngolcnniaaDoor
/- Within a region: operations run, one by its own contract, told anew, and so on, as often as wanted. No condition. -/
namespace Go.Proofs.YtdbbcngolcnniaaDoor
open Go Go.RowKit
set_option linter.unusedVariables false
set_option linter.unusedSimpArgs false
section
open E
/-- The same, by other numbers of rows. -/
theorem E.den_again2 {w0 : World} {wr : Bs} {ρ σ : Env} {n : Nat} {tm tm' : List (Nat × TV)} {rows rows2 : List (Nat × Row)} {a : Act} {w w' : World} {d : Nat} {v : Value} {K : List Nat} (hd : Den w0 wr ρ (mkSt n tm rows []) a w) (hdn : d < n)
    (h : ∀ p ∈ tm', (p.1 = d ∧ v = p.2.val σ ∧ p.2.ok) ∨ (p.1 ≠ d ∧ ∃ x, findT tm p.1 = some x ∧ p.2.val σ = x.val ρ ∧ p.2.ok)) (hi : idsOk tm' rows2 [] = true) (hr : ∀ p ∈ rows2, RowAt σ p.1 p.2 w' ∧ pok p.2.ps) (hds : ∀ p ∈ rows2, ∀ q ∈ rows2, p.1 ≠ q.1 → p.2.w = true → (σ p.1).1 ≠ (σ q.1).1) (hK : K.all (hasN (rows2.map (·.1))) = true) (hk5 : rows2.all (fun p => Nat.ble (p.1 + 1) 500 || Nat.ble 1000 p.1) = true) :
    Den w' ⟨wlOf σ rows2, σ, K⟩ σ (mkSt n tm' rows2 []) (a.put (some d) v) w' := by
  simp only [idsOk, Bool.and_eq_true, List.all_eq_true] at hi
  have hu : ∀ r, (mkSt n tm' rows2 []).used r = hasN (rows2.map (·.1)) r := fun r => by show hasN (rows2.map (·.1) ++ []) r = _; rw [List.append_nil]
  refine ⟨by rw [put_size]; exact hd.sz, by rw [put_defers]; exact hd.df, ⟨List.nodup_nil, fun D hD => by cases hD⟩, KeepsOthers.refl _, fun t x hx => ?_, fun r y hr2 => ?_, fun r q y z hr2 hq hrq hw => ?_, Fr.refl _ _, fun _ _ => rfl, fun r hr2 => ?_, fun g hg hug => ?_, fun r B h => by cases h⟩
  · rw [tm_put (s := mkSt n tm rows []) (fun x hx => by cases hx; rw [hd.sz]; exact hdn)]
    simp only
    have hm := findT_mem (show findT tm' t = some x from hx)
    rcases h _ hm with ⟨e1, e2, e3⟩ | ⟨e1, y, e2, e3, e4⟩
    · rw [if_pos e1]
      exact ⟨by rw [e2], e3, fun r hr2 => hi.1 _ hm r hr2⟩
    · rw [if_neg e1]
      obtain ⟨g1, g2, g3⟩ := hd.tm t y e2
      exact ⟨by rw [g1, ← e3], e4, fun r hr2 => hi.1 _ hm r hr2⟩
  · have hm := findR_mem (show findR rows2 r = some y from hr2)
    obtain ⟨g1, g2⟩ := hr _ hm
    exact ⟨g1, g2, by rw [hu]; exact hasN_iff.2 (List.mem_map.2 ⟨_, hm, rfl⟩), fun p hp => hi.2 _ hm p hp, fun hw => .inr (mem_wlOf hm hw)⟩
  · exact hds _ (findR_mem (show findR rows2 r = some y from hr2)) _ (findR_mem (show findR rows2 q = some z from hq)) hrq hw
  · rw [hu]; exact List.all_eq_true.1 hK r hr2
  · rw [hu] at hug
    obtain ⟨p, hp, he⟩ := List.mem_map.1 (hasN_iff.1 hug)
    have := List.all_eq_true.1 hk5 p hp
    rw [Bool.or_eq_true] at this
    rcases this with h5 | h5 <;> have := Nat.le_of_ble_eq_true h5 <;> omega
/-- To stand within a region that does not draw, ahead of its k-th operation. -/
def E.Mid (P : Program) (w0 : World) (wr : Bs) (n : Nat) (gl : List Nat) (todo : List Item) (Q : Exit → Act → World → Prop) (k : Nat) (tm : List (Nat × TV)) (rows : List (Nat × Row)) (r : Option Nat := none) (mk : List Nat := []) : Prop :=
  ∀ a w ρ, Den w0 wr ρ (mkSt n tm rows gl mk) a w → wpOpsIn (FW r) 5 P (hdOps todo) (fun e a w => e = .normal ∧ KX P r todo.tail Q a w) (List.range' k ((hdOps todo).size - k)) a w
/-- Into a region. -/
theorem E.At.reg {P : Program} {w0 : World} {wr : Bs} {n : Nat} {gl : List Nat} {todo : List Item} {Q : Exit → Act → World → Prop} {tm : List (Nat × TV)} {rows : List (Nat × Row)} {r : Option Nat} {mk : List Nat} (hr : isReg todo = true)
    (h : E.Mid P w0 wr n gl todo Q 0 tm rows r mk) : At P w0 wr n gl todo Q tm rows r mk := by
  rw [isReg_ok hr]
  intro a w ρ hd
  have h1 := h a w ρ hd
  generalize hdOps todo = ops at *
  generalize hdRid todo = rid at *
  refine KX.code (n := 5) (K := fun a w => KX P r todo.tail Q a w) (wpIn_region ?_) fun a w h => h
  rw [List.range_eq_range']
  exact h1
def mid (P : Program) (C : Hints) (ops : Array Oper) (base k m : Nat) (s : St) (ks rs : List Nat) : Option (List Prop × List (Option TV) × List (Option Row)) :=
  match runL P C ops base (List.replicate k ([], []) ++ recL P C ops base (m - k) k s) (m - k) k s with
  | some (o1, s1) => some (o1, ks.map s1.tmps, rs.map s1.row)
  | none => none
/-- Operations run. -/
theorem E.Mid.run {P : Program} {w0 : World} {wr : Bs} {n : Nat} {gl : List Nat} {todo : List Item} {Q : Exit → Act → World → Prop} {tm tm2 : List (Nat × TV)} {rows rows2 : List (Nat × Row)} {r : Option Nat} {mk : List Nat} {k : Nat} {ob : List Prop}
    (m : Nat) (cs : List (Nat × Hint)) (hC : allW P w0 wr cs)
    (h : mid P (findC cs) (hdOps todo) (1000 + hdRid todo * 1000) k m (mkSt n tm rows gl mk) (tm2.map (·.1)) (rows2.map (·.1)) = some (ob, tm2.map (fun p => some p.2), rows2.map fun p => some p.2)) (ho : all ob)
    (hs : (noDef (hdOps todo) && (Nat.ble m (hdOps todo).size && (Nat.ble k m && (gl.all (fun g => Nat.ble (g + 1) 500) && (idsOk tm2 rows2 gl && wr.k.all (hasN (rows2.map (·.1) ++ gl.map (500 + ·)))))))) = true)
    (hK : E.Mid P w0 wr n gl todo Q m tm2 rows2 r mk) : E.Mid P w0 wr n gl todo Q k tm rows r mk := by
  intro a w ρ hd
  simp only [Bool.and_eq_true] at hs
  obtain ⟨hnd, hms, hkm, hg, hi1, hk1⟩ := hs
  have hms := Nat.le_of_ble_eq_true hms
  have hkm := Nat.le_of_ble_eq_true hkm
  unfold mid at h
  split at h
  · rename_i p1 s1 hr1
    simp only [Option.some.injEq, Prod.mk.injEq] at h
    obtain ⟨rfl, e1, e2⟩ := h
    obtain ⟨k1, k2⟩ := runL_keep hr1
    rw [show List.range' k ((hdOps todo).size - k) = List.range' k (m - k) ++ List.range' m ((hdOps todo).size - m) by
      have := List.range'_append_1 (s := k) (m := m - k) (n := (hdOps todo).size - m)
      rw [show k + (m - k) = m by omega] at this
      rw [this]
      congr 1
      omega]
    refine wpOpsIn_append (K := fun a w => ∃ ρ, Den w0 wr ρ s1 a w) hnd (fun a w ⟨ρ, hd⟩ => ?_) _ a w (seq_ok (findW_ok hC) (fun a w ρ hd => ⟨rfl, ρ, hd⟩) _ _ _ _ _ _ _ hr1 ho hd)
    have hd1 := den_mk (gl := gl) hd e1 e2 (fun g hgm => ⟨Nat.le_of_ble_eq_true (List.all_eq_true.1 hg g hgm), k2 _ (hasN_iff.2 (List.mem_append.2 (.inr (List.mem_map.2 ⟨g, hgm, rfl⟩))))⟩) hi1 hk1
    rw [k1.1, k1.2] at hd1
    exact hK a w ρ hd1
  · cases h
/-- One operation by its own contract; behind it all is told anew. -/
theorem E.Mid.op {α : Type} {P : Program} {w0 : World} {wr : Bs} {n : Nat} {gl : List Nat} {todo : List Item} {Q : Exit → Act → World → Prop} {tm : List (Nat × TV)} {rows : List (Nat × Row)} {r : Option Nat} {mk : List Nat} {k : Nat}
    (d : Option Tmp) (w0' : α → World) (wr' : α → Bs) (tm2 : α → List (Nat × TV)) (rows2 : α → List (Nat × Row)) (I : α → Prop) (hs : Nat.ble (k + 1) (hdOps todo).size = true)
    (hop : ∀ a w ρ (K : Act → World → Prop) (QQ : Exit → Act → World → Prop), Den w0 wr ρ (mkSt n tm rows gl mk) a w → (∀ x v w' ρ', I x → Den (w0' x) (wr' x) ρ' (mkSt n (tm2 x) (rows2 x) gl mk) (a.put d v) w' → K (a.put d v) w') → wpOpIn (FW r) 5 P (hdOps todo) QQ k K a w)
    (hK : ∀ x, I x → E.Mid P (w0' x) (wr' x) n gl todo Q (k + 1) (tm2 x) (rows2 x) r mk) : E.Mid P w0 wr n gl todo Q k tm rows r mk := by
  intro a w ρ hd
  have hs := Nat.le_of_ble_eq_true hs
  rw [show List.range' k ((hdOps todo).size - k) = k :: List.range' (k + 1) ((hdOps todo).size - (k + 1)) by
    rw [← List.range'_succ]
    congr 1
    omega, wpOpsIn_cons]
  exact hop a w ρ _ _ hd fun x v w' ρ' hI hd2 => hK x hI _ _ ρ' hd2
/-- Out of a region. -/
theorem E.Mid.out {P : Program} {w0 : World} {wr : Bs} {n : Nat} {gl : List Nat} {todo : List Item} {Q : Exit → Act → World → Prop} {tm : List (Nat × TV)} {rows : List (Nat × Row)} {r : Option Nat} {mk : List Nat} {k : Nat} (hk : Nat.beq (hdOps todo).size k = true)
    (h : At P w0 wr n gl todo.tail Q tm rows r mk) : E.Mid P w0 wr n gl todo Q k tm rows r mk := by
  intro a w ρ hd
  rw [Nat.eq_of_beq_eq_true hk, Nat.sub_self]
  exact ⟨rfl, h a w ρ hd⟩
end
end Go.Proofs.YtdbbcngolcnniaaDoor
/- A range over a function, where the iterator has blocks of its own that turn between two rounds: which blocks the rounds may turn is carried as a set. No condition of its own. -/
namespace Go.Proofs.YtdbbcngolcnniaaDoor
set_option linter.unusedSimpArgs false
open Go.RowKit Go.Shelf
set_option linter.unusedVariables false

/-- From W to W2 nothing has turned but what is in S; S2 has, of what lay, nothing that S has not. -/
structure Ext (S S2 : Nat → Prop) (W W2 : World) : Prop where
  os : W2.os = W.os
  tape : W2.tape = W.tape
  output : W2.output = W.output
  size : W.heap.size ≤ W2.heap.size
  new : ∀ k, k < W.heap.size → ¬ S k → ¬ S2 k
  keep : ∀ k, k < W.heap.size → ¬ S k → W2.heap[k]? = W.heap[k]?

theorem Ext.refl (S : Nat → Prop) (W : World) : Ext S S W W := ⟨rfl, rfl, rfl, Nat.le_refl _, fun _ _ h => h, fun _ _ _ => rfl⟩
theorem Ext.trans {S T U : Nat → Prop} {A B C : World} (h : Ext S T A B) (k : Ext T U B C) : Ext S U A C :=
  ⟨k.os.trans h.os, k.tape.trans h.tape, k.output.trans h.output, Nat.le_trans h.size k.size,
   fun i hi hs => k.new i (Nat.lt_of_lt_of_le hi h.size) (h.new i hi hs),
   fun i hi hs => (k.keep i (Nat.lt_of_lt_of_le hi h.size) (h.new i hi hs)).trans (h.keep i hi hs)⟩
theorem Ext.above {S T : Nat → Prop} {A B : World} {n : Nat} (h : Ext S T A B) (hn : n ≤ A.heap.size) (hs : ∀ k, S k → n ≤ k) : ∀ k, T k → n ≤ k := fun k hk => by
  rcases Nat.lt_or_ge k n with h1 | h1
  · exact absurd hk (h.new k (by omega) (fun h2 => by have := hs k h2; omega))
  · exact h1
theorem Ext.below {S T : Nat → Prop} {A B : World} {n : Nat} (h : Ext S T A B) (hn : n ≤ A.heap.size) (hs : ∀ k, S k → n ≤ k) : Below n A B :=
  ⟨h.os, h.tape, h.output, h.size, fun k hk => h.keep k (by omega) (fun h2 => by have := hs k h2; omega)⟩
theorem Ext.drew {S T : Nat → Prop} {A B : World} (h : Ext S T A B) : Ext S T A B.drew := ⟨h.os, h.tape, h.output, h.size, h.new, h.keep⟩
theorem Ext.undrew {S T : Nat → Prop} {A B : World} (h : Ext S T A.drew B) : Ext S T A B := ⟨h.os, h.tape, h.output, h.size, h.new, h.keep⟩
/-- What is not in S, and lay, may be struck from what S is said to be. -/
theorem Ext.weaken {S S1 T T1 : Nat → Prop} {A B : World} (h : Ext S T A B) (hS : ∀ k, k < A.heap.size → ¬ S1 k → ¬ S k) (hT : ∀ k, k < A.heap.size → ¬ S1 k → ¬ T k → ¬ T1 k) : Ext S1 T1 A B :=
  ⟨h.os, h.tape, h.output, h.size, fun k hk hs => hT k hk hs (h.new k hk (hS k hk hs)), fun k hk hs => h.keep k hk (hS k hk hs)⟩
theorem Ext.cell {S T : Nat → Prop} {A B : World} (h : Ext S T A B) {p : Addr} (hp : p.block < A.heap.size) (hs : ¬ S p.block) : B.cell? p = A.cell? p :=
  World.cell?_of_block (w := A) (h.keep p.block hp hs)
theorem Ext.of_below {W W2 : World} (S : Nat → Prop) (h : Below W.heap.size W W2) : Ext S S W W2 :=
  ⟨h.os, h.tape, h.output, h.size, fun _ _ h => h, fun k hk _ => h.block k hk⟩

/-- What J says hangs on S's blocks alone. -/
structure Dep (J : List Nat → (Nat → Prop) → World → Prop) : Prop where
  same : ∀ x S W W2, J x S W → W.heap.size ≤ W2.heap.size → (∀ k, S k → W2.heap[k]? = W.heap[k]?) → J x S W2
  lt : ∀ x S W, J x S W → ∀ k, S k → k < W.heap.size

theorem dep_false : Dep (fun _ _ _ => False) := ⟨fun _ _ _ _ h _ _ => h, fun _ _ _ h => h.elim⟩
theorem Dep.alloc {J : List Nat → (Nat → Prop) → World → Prop} (h : Dep J) {x : List Nat} {S : Nat → Prop} {W : World} (o : Obj) (hj : J x S W) : J x S (W.alloc o) :=
  h.same x S W _ hj (by simp) (fun k hk => Below.heap_alloc _ _ _ (h.lt _ _ _ hj k hk))
theorem Dep.drew {J : List Nat → (Nat → Prop) → World → Prop} (h : Dep J) {x : List Nat} {S : Nat → Prop} {W : World} (hj : J x S W) : J x S W.drew :=
  h.same x S W _ hj (Nat.le_refl _) (fun _ _ => rfl)
theorem Dep.setCell {J : List Nat → (Nat → Prop) → World → Prop} (h : Dep J) {x : List Nat} {S : Nat → Prop} {W : World} (p : Addr) (v : Value) (hp : ¬ S p.block) (hj : J x S W) : J x S (W.setCell p v) :=
  h.same x S W _ hj (by simp [World.setCell]) (fun k hk => Below.heap_setCell _ _ _ _ (fun e => hp (e ▸ hk)))
theorem Dep.put {J : List Nat → (Nat → Prop) → World → Prop} (h : Dep J) {x : List Nat} {S : Nat → Prop} {W : World} (l : Nat) (o : Obj) (hp : ¬ S l) (hj : J x S W) : J x S (W.putObj l o) :=
  h.same x S W _ hj (by simp) (fun k hk => World.putObj_heap_other (fun e => hp (e ▸ hk)))

section
variable {P : Program}
/-- What a round hands back. -/
def YPost (J Jx : List Nat → (Nat → Prop) → World → Prop) (xs : List Nat) (S : Nat → Prop) (W : World) (e : Ending) (W2 : World) : Prop :=
  ∃ S2, Ext S S2 W W2 ∧ ((e = .returned (.bool true) ∧ J xs S2 W2) ∨ (e = .returned (.bool false) ∧ Jx xs S2 W2))

/-- The iterator value (g, lb), made by w0, hands out xs, one by one; of what lay below n0 at its making it asks that it stand. -/
def SeqOK (P : Program) (g : Nat) (lb : Array Value) (xs : List Nat) (n0 : Nat) (w0 : World) : Prop :=
  n0 ≤ w0.heap.size ∧ ∀ (m l : Nat) (J Jx : List Nat → (Nat → Prop) → World → Prop) (S : Nat → Prop) (W : World), Below n0 w0 W → Dep J → Dep Jx → (∀ k, S k → n0 ≤ k) →
    (∀ (pre : List Nat) (x : Nat) (S1 : Nat → Prop) (W1 : World), Ext S S1 W W1 → J pre S1 W1 → pre ++ [x] <+: xs → YieldAt Fence.wide 0 P l #[.int .u8 (x : Int)] W1 (YPost J Jx (pre ++ [x]) S1 W1)) →
    J [] S W →
    CallsIn Fence.wide m P g (#[.func (.yield l) #[] #[]] ++ lb) W fun e W2 => (∃ v, e = .returned v) ∧ ∃ S2, Ext S S2 W W2 ∧ (J xs S2 W2 ∨ ∃ pre, pre <+: xs ∧ Jx pre S2 W2)

theorem SeqOK.later {g : Nat} {lb : Array Value} {xs : List Nat} {n0 : Nat} {w0 w1 : World} (h : SeqOK P g lb xs n0 w0) (hb : Below n0 w0 w1) : SeqOK P g lb xs n0 w1 :=
  ⟨Nat.le_trans h.1 hb.size, fun m l J Jx S W hW => h.2 m l J Jx S W (hb.trans hW)⟩
theorem SeqOK.up {g : Nat} {lb : Array Value} {xs : List Nat} {n0 n1 : Nat} {w0 : World} (h : SeqOK P g lb xs n0 w0) (hn : n0 ≤ n1) (h1 : n1 ≤ w0.heap.size) : SeqOK P g lb xs n1 w0 :=
  ⟨h1, fun m l J Jx S W hW hJ hJx hS => h.2 m l J Jx S W (hW.mono hn) hJ hJx (fun k hk => Nat.le_trans hn (hS k hk))⟩

theorem anyDepthR {F : Fence} (hd : F.depth = none) {m m2 : Nat} {l : Nat} {f : FuncId} {tmps : Array Value} {assign body : Code} {w : World} {R : Ending → World → Prop}
    (h : RoundIn F m P l f tmps assign body w R) : RoundIn F m2 P l f tmps assign body w R := ⟨h.1, fun c cs _ => h.2 c cs (fun d hd2 => by rw [hd] at hd2; cases hd2)⟩
theorem anyDepthY {F : Fence} (hd : F.depth = none) {m : Nat} (m2 : Nat) {l : Nat} {args : Array Value} {W : World} {R : Ending → World → Prop} (h : YieldAt F m P l args W R) : YieldAt F m2 P l args W R := by
  obtain ⟨fn, tmps, assign, body, hy, hR⟩ := h
  exact ⟨fn, tmps, assign, body, hy, anyDepthR hd hR⟩

/-- How the body of a round may be left. -/
def setPost (I : List Nat → (Nat → Prop) → World → Prop) (Ix : Code → List Nat → (Nat → Prop) → World → Prop) (xs : List Nat) (S : Nat → Prop) (W : World) : Exit → Act → World → Prop
  | .normal, _, W2 => ∃ S2, Ext S S2 W W2 ∧ I xs S2 W2
  | .ret, _, W2 => ∃ S2, Ext S S2 W W2 ∧ Ix .ret xs S2 W2
  | .exit id, _, W2 => ∃ S2, Ext S S2 W W2 ∧ Ix (.exit id) xs S2 W2
  | .goto t, _, W2 => ∃ S2, Ext S S2 W W2 ∧ Ix (.goto t) xs S2 W2
  | .panic _, _, _ => False
  | .outgrown, _, _ => False

theorem ext_put (S : Nat → Prop) (W : World) (l : Nat) (o : Obj) (hl : S l) : Ext S S W (W.putObj l o) :=
  ⟨(grownBy_putObj' W l o).os, (grownBy_putObj' W l o).tape, (grownBy_putObj' W l o).output, by simp, fun _ _ h => h, fun k _ hk => World.putObj_heap_other (fun e => hk (e ▸ hl))⟩

/-- Two sets side by side. -/
def plus2 (S : Nat → Prop) (a b : Nat) : Nat → Prop := fun k => S k ∨ k = a ∨ k = b

theorem wpIn_rangeFunc_set {n : Nat} {g : Operand} {ps : Array Tmp} {assign body : Code} {Q : Exit → Act → World → Prop} {a : Act} {w : World}
    {gf : Nat} {lb : Array Value} (hg : a.eval g = .func (.func gf) #[] lb) (eg : ∀ args w, (callFunc gf args).run P w = .ok (.enter gf args) w)
    {xs : List Nat} {n0 : Nat} {w0 : World} (hseq : SeqOK P gf lb xs n0 w0) (hb0 : Below n0 w0 w) (hps : ps.size = 1)
    (I : List Nat → (Nat → Prop) → World → Prop) (Ix : Code → List Nat → (Nat → Prop) → World → Prop) (hI : Dep I) (hIx : ∀ c, Dep (Ix c))
    (S0 : Nat → Prop) (hS0 : ∀ k, S0 k → n0 ≤ k) (h0 : I [] S0 w) (a₁ : Nat → Act)
    (hassign : ∀ (l x : Nat) (W : World) (K : Act → World → Prop), K (a₁ x) W →
      assign.wpIn (Fence.wide.inRound l) n P (Exit.then K (fun _ _ _ => False)) { tmps := (ps.zip #[.int .u8 (x : Int)]).foldl (fun t (p, v) => t.setIfInBounds p v) a.tmps, defers := [] } W)
    (hbody : ∀ (l : Nat) (pre : List Nat) (x : Nat) (S : Nat → Prop) (W : World), Ext S0 S w W → I pre S W → pre ++ [x] <+: xs → body.wpIn (Fence.wide.inRound l) n P (setPost I Ix (pre ++ [x]) S W) (a₁ x) W)
    (hdone : ∀ (D : Nat) (S2 : Nat → Prop) (W : World), w.heap.size ≤ D → ¬ S2 D → Ext S0 S2 w W → I xs S2 W → W.heap[D]? = some (.deferred (some [])) → Q .normal { a with defers := { target := .collected D, args := #[] } :: a.defers } W)
    (hstop : ∀ (D : Nat) (c : Code) (pre : List Nat) (S2 : Nat → Prop) (W : World), w.heap.size ≤ D → ¬ S2 D → Ext S0 S2 w W → pre <+: xs → Ix c pre S2 W → W.heap[D]? = some (.deferred (some [])) → c.wpIn Fence.wide n P Q { a with defers := { target := .collected D, args := #[] } :: a.defers } W) :
    (Code.rangeFunc g ps assign body).wpIn Fence.wide n P Q a w := by
  refine wpIn_rangeFunc ?_
  intro fn hfn
  obtain ⟨rec, hrec⟩ : ∃ rec : LoopState → Option Code → Loop, rec = fun st pe => { state := st, pending := pe, fn, tmps := a.tmps, params := ps, assign, body, defers := w.heap.size } := ⟨_, rfl⟩
  obtain ⟨W1, hW1⟩ : ∃ W1, (w.alloc (.deferred (some []))).alloc (.loop (rec .ready none)) = W1 := ⟨_, rfl⟩
  have hsz1 : W1.heap.size = w.heap.size + 2 := by rw [← hW1]; simp
  have hL1 : W1.heap[w.heap.size + 1]? = some (.loop (rec .ready none)) := by
    rw [← hW1]; have := World.alloc_heap_new (w.alloc (.deferred (some []))) (.loop (rec .ready none)); rwa [World.size_alloc] at this
  have hK1 : W1.heap[w.heap.size]? = some (.deferred (some [])) := by
    rw [← hW1]; exact (Below.heap_alloc _ _ _ (by simp)).trans (World.alloc_heap_new w _)
  have hI1 : I [] S0 W1 := by rw [← hW1]; exact hI.alloc _ (hI.alloc _ h0)
  have hbw : Below w.heap.size w W1 := by rw [← hW1]; exact ((Below.refl _ w).alloc (Nat.le_refl _) _).alloc (by simp) _
  have hn0 : n0 ≤ w.heap.size := Nat.le_trans hseq.1 hb0.size
  have hS0w : ∀ k, S0 k → k < w.heap.size := hI.lt _ _ _ h0
  have hE1 : Ext S0 S0 w W1 := Ext.of_below S0 hbw
  refine ⟨w.heap.size + 1, [{ target := .collected w.heap.size, args := #[] }], W1, { target := .fn (.func gf) lb, args := #[.func (.yield (w.heap.size + 1)) #[] #[]] }, W1, gf,
    #[.func (.yield (w.heap.size + 1)) #[] #[]] ++ lb, W1, ?_, ?_, ?_, ?_, fun h => (by cases h), ?_⟩
  · rw [← hW1, hrec]; exact run_enterLoop_outer _ _ _ _ _
  · simp only [resolve, hg]
    simp [go_sem]
  · intro f' _; trivial
  · simp [invoke, go_sem, eg]
  · refine (hseq.2 (n - 1) (w.heap.size + 1)
      (fun pre S W => ∃ SI, (∀ k, S k ↔ plus2 SI (w.heap.size + 1) w.heap.size k) ∧ ¬ SI (w.heap.size + 1) ∧ ¬ SI w.heap.size ∧ I pre SI W ∧ W.heap[w.heap.size + 1]? = some (.loop (rec .ready none)) ∧ W.heap[w.heap.size]? = some (.deferred (some [])))
      (fun pre S W => ∃ SI c, (∀ k, S k ↔ plus2 SI (w.heap.size + 1) w.heap.size k) ∧ ¬ SI (w.heap.size + 1) ∧ ¬ SI w.heap.size ∧ Ix c pre SI W ∧ W.heap[w.heap.size + 1]? = some (.loop (rec .done (some c))) ∧ W.heap[w.heap.size]? = some (.deferred (some [])))
      (plus2 S0 (w.heap.size + 1) w.heap.size) W1 (hb0.trans (hbw.mono hn0)) ?_ ?_ ?_ ?_ ?_).mono ?_
    · refine ⟨fun x S A B ⟨SI, hS, h1, h2, hi, hl, hk⟩ hsz hsame => ⟨SI, hS, h1, h2, hI.same _ _ _ _ hi hsz (fun k hk2 => hsame k ((hS k).2 (.inl hk2))), (hsame _ ((hS _).2 (.inr (.inl rfl)))).trans hl, (hsame _ ((hS _).2 (.inr (.inr rfl)))).trans hk⟩, ?_⟩
      rintro x S A ⟨SI, hS, h1, h2, hi, hl, hk⟩ k hk2
      rcases (hS k).1 hk2 with h | rfl | rfl
      · exact hI.lt _ _ _ hi k h
      · exact (Array.getElem?_eq_some_iff.1 hl).1
      · exact (Array.getElem?_eq_some_iff.1 hk).1
    · refine ⟨fun x S A B ⟨SI, c, hS, h1, h2, hi, hl, hk⟩ hsz hsame => ⟨SI, c, hS, h1, h2, (hIx c).same _ _ _ _ hi hsz (fun k hk2 => hsame k ((hS k).2 (.inl hk2))), (hsame _ ((hS _).2 (.inr (.inl rfl)))).trans hl, (hsame _ ((hS _).2 (.inr (.inr rfl)))).trans hk⟩, ?_⟩
      rintro x S A ⟨SI, c, hS, h1, h2, hi, hl, hk⟩ k hk2
      rcases (hS k).1 hk2 with h | rfl | rfl
      · exact (hIx c).lt _ _ _ hi k h
      · exact (Array.getElem?_eq_some_iff.1 hl).1
      · exact (Array.getElem?_eq_some_iff.1 hk).1
    · rintro k (h | rfl | rfl)
      · exact hS0 k h
      · omega
      · omega
    · -- one round
      rintro pre x S1 W hE ⟨SI, hS, hn1, hn2, hi, hl, hk⟩ hpre
      have hlt : w.heap.size + 1 < W.heap.size := (Array.getElem?_eq_some_iff.1 hl).1
      have hy := run_yield (P := P) (args := #[.int .u8 (x : Int)]) hl (by rw [hrec]; exact hps.symm)
      rw [hrec] at hy
      refine ⟨fn, _, assign, body, hy, anyDepthR (m := n) rfl (roundIn_of_wpIn hfn (hassign _ x W _ ⟨_, run_beginRound hl (by rw [hrec]), ?_⟩))⟩
      clear hy
      have hl2 : (W.putObj (w.heap.size + 1) (.loop { rec .ready none with state := .busy })).heap[w.heap.size + 1]? = some (.loop { rec .ready none with state := .busy }) := World.putObj_heap_same hlt
      have hk2 : (W.putObj (w.heap.size + 1) (.loop { rec .ready none with state := .busy })).heap[w.heap.size]? = some (.deferred (some [])) := (World.putObj_heap_other (by omega)).trans hk
      have hEw : Ext S0 SI w (W.putObj (w.heap.size + 1) (.loop { rec .ready none with state := .busy })) := by
        have h3 := grownBy_putObj' W (w.heap.size + 1) (.loop { rec .ready none with state := .busy })
        refine ⟨h3.os.trans (hE.os.trans hE1.os), h3.tape.trans (hE.tape.trans hE1.tape), h3.output.trans (hE.output.trans hE1.output), by simp; omega, fun k hk3 hs h4 => ?_, fun k hk3 hs => ?_⟩
        · exact hE.new k (by omega) (by rintro (h | h | h); exact hs h; omega; omega) ((hS k).2 (.inl h4))
        · rw [World.putObj_heap_other (by omega), hE.keep k (by omega) (by rintro (h | h | h); exact hs h; omega; omega)]
          exact hbw.block k hk3
      refine wpIn_mono (hbody _ pre x SI _ hEw (hI.put _ _ hn1 hi) hpre) ?_
      have fin : ∀ (jump : Option Code) (SJ : Nat → Prop) (W3 : World), Ext SI SJ (W.putObj (w.heap.size + 1) (.loop { rec .ready none with state := .busy })) W3 →
          (Instr.endRound (w.heap.size + 1) jump).run P W3 = .ok (.bool jump.isNone) (W3.putObj (w.heap.size + 1) (.loop (rec (if jump.isNone then .ready else .done) jump))) ∧
          ¬ SJ (w.heap.size + 1) ∧ ¬ SJ w.heap.size ∧
          (W3.putObj (w.heap.size + 1) (.loop (rec (if jump.isNone then .ready else .done) jump))).heap[w.heap.size + 1]? = some (.loop (rec (if jump.isNone then .ready else .done) jump)) ∧
          (W3.putObj (w.heap.size + 1) (.loop (rec (if jump.isNone then .ready else .done) jump))).heap[w.heap.size]? = some (.deferred (some [])) ∧
          Ext S1 (plus2 SJ (w.heap.size + 1) w.heap.size) W (W3.putObj (w.heap.size + 1) (.loop (rec (if jump.isNone then .ready else .done) jump))) := fun jump SJ W3 hk3 => by
        have hszp : (W.putObj (w.heap.size + 1) (.loop { rec .ready none with state := .busy })).heap.size = W.heap.size := by simp
        have hl3 := (hk3.keep _ (by omega) hn1).trans hl2
        have hr := run_endRound (P := P) jump hl3
        rw [hrec] at hr ⊢
        refine ⟨hr, hk3.new _ (by omega) hn1, hk3.new _ (by omega) hn2, World.putObj_heap_same (Array.getElem?_eq_some_iff.1 hl3).1, (World.putObj_heap_other (by omega)).trans ((hk3.keep _ (by omega) hn2).trans hk2), ?_⟩
        refine ⟨hk3.os, hk3.tape, hk3.output, by have := hk3.size; simp; omega, fun k hk4 hs => ?_, fun k hk4 hs => ?_⟩
        · rintro (h | rfl | rfl)
          · exact hk3.new k (by omega) (fun h5 => hs ((hS k).2 (.inl h5))) h
          · exact hs ((hS _).2 (.inr (.inl rfl)))
          · exact hs ((hS _).2 (.inr (.inr rfl)))
        · have hkl : k ≠ w.heap.size + 1 := fun e => hs ((hS k).2 (.inr (.inl e)))
          rw [World.putObj_heap_other hkl, hk3.keep k (by omega) (fun h5 => hs ((hS k).2 (.inl h5))), World.putObj_heap_other hkl]
      rintro e a3 W3 hp
      cases e with
      | normal =>
        obtain ⟨SJ, hk3, hi3⟩ := hp
        obtain ⟨hr, q1, q2, hl4, hk4, hE4⟩ := fin none SJ W3 hk3
        exact ⟨_, _, hr, _, hE4, .inl ⟨rfl, SJ, fun _ => Iff.rfl, q1, q2, hI.put _ _ q1 hi3, hl4, hk4⟩⟩
      | ret =>
        obtain ⟨SJ, hk3, hi3⟩ := hp
        obtain ⟨hr, q1, q2, hl4, hk4, hE4⟩ := fin (some .ret) SJ W3 hk3
        exact ⟨_, _, hr, _, hE4, .inr ⟨rfl, SJ, .ret, fun _ => Iff.rfl, q1, q2, (hIx _).put _ _ q1 hi3, hl4, hk4⟩⟩
      | exit id =>
        obtain ⟨SJ, hk3, hi3⟩ := hp
        obtain ⟨hr, q1, q2, hl4, hk4, hE4⟩ := fin (some (.exit id)) SJ W3 hk3
        exact ⟨_, _, hr, _, hE4, .inr ⟨rfl, SJ, .exit id, fun _ => Iff.rfl, q1, q2, (hIx _).put _ _ q1 hi3, hl4, hk4⟩⟩
      | goto t =>
        obtain ⟨SJ, hk3, hi3⟩ := hp
        obtain ⟨hr, q1, q2, hl4, hk4, hE4⟩ := fin (some (.goto t)) SJ W3 hk3
        exact ⟨_, _, hr, _, hE4, .inr ⟨rfl, SJ, .goto t, fun _ => Iff.rfl, q1, q2, (hIx _).put _ _ q1 hi3, hl4, hk4⟩⟩
      | panic ch => exact hp.elim
      | outgrown => exact hp.elim
    · exact ⟨S0, fun _ => Iff.rfl, fun h => by have := hS0w _ h; omega, fun h => by have := hS0w _ h; omega, hI1, hL1, hK1⟩
    · -- behind the iterator
      have out : ∀ (S2 SI : Nat → Prop) (W2 : World) (o : Obj), Ext (plus2 S0 (w.heap.size + 1) w.heap.size) S2 W1 W2 → (∀ k, S2 k ↔ plus2 SI (w.heap.size + 1) w.heap.size k) → Ext S0 SI w (W2.putObj (w.heap.size + 1) o) := fun S2 SI W2 o hE hS => by
        have h3 := grownBy_putObj' W2 (w.heap.size + 1) o
        refine ⟨h3.os.trans (hE.os.trans hE1.os), h3.tape.trans (hE.tape.trans hE1.tape), h3.output.trans (hE.output.trans hE1.output), by have := hE.size; simp; omega, fun k hk3 hs h4 => ?_, fun k hk3 hs => ?_⟩
        · exact hE.new k (by omega) (by rintro (h | h | h); exact hs h; omega; omega) ((hS k).2 (.inl h4))
        · rw [World.putObj_heap_other (by omega), hE.keep k (by omega) (by rintro (h | h | h); exact hs h; omega; omega)]
          exact hbw.block k hk3
      rintro e W2 ⟨⟨v, rfl⟩, S2, hE, (⟨SI, hS, hn1, hn2, hi, hl, hk⟩ | ⟨pre, hp, SI, c, hS, hn1, hn2, hi, hl, hk⟩)⟩
      · exact ⟨none, _, by have := run_endLoop (P := P) hl (by rw [hrec]; simp); rw [hrec] at this; exact this, hdone _ SI _ (Nat.le_refl _) hn2 (out _ _ _ _ hE hS) (hI.put _ _ hn1 hi) ((World.putObj_heap_other (by omega)).trans hk)⟩
      · exact ⟨some c, _, by have := run_endLoop (P := P) hl (by rw [hrec]; simp); rw [hrec] at this; exact this, hstop _ c pre SI _ (Nat.le_refl _) hn2 (out _ _ _ _ hE hS) hp ((hIx c).put _ _ hn1 hi) ((World.putObj_heap_other (by omega)).trans hk)⟩
end
end Go.Proofs.YtdbbcngolcnniaaDoor
