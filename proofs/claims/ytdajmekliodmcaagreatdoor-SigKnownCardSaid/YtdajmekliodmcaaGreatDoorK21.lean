/- Several texts, one behind the other; each says by itself what it proves, and on what conditions. -/
import Derived.Test.YtdajmekliodmcaaGreatDoorK20
import Derived.Test.YtdajmekliodmcaaGreatDoorRows
import Derived.WalkKit
import Derived.WalkSpells
import Derived.WalkLawsBesides
import Derived.Handy
import Derived.Lib.Hide
import Derived.RegionTactic
import Derived.Maps.AppendAt
import Derived.Outline
import Derived.BigQuiet
import Derived.Deep.QuietTactic
import Derived.OneCell
import Derived.RangeFuncNested
import Derived.RangeFuncBound
import Derived.RangeFuncCalls
import Derived.RangeFuncLeaves
import Derived.RangeFuncFrom
import Derived.Shelf.Abstract
import Derived.Shelf.RegionOpen
import Derived.OwnWalkIn
import Derived.TacticsInMore
import Derived.LoopNIn
import Derived.LoopIn
import Derived.RegionIn
import Derived.Deep.RegionWith
import Derived.Deep.RegionHeld3
import Derived.Laws.Externs
import Derived.Shelf.Spec.BitsCarry
import Derived.OrdersHeld
import Derived.StillTail
import Derived.Still
import Derived.Laws.StructEq
import Derived.Laws.Cover2
import Derived.Laws.Tables
namespace Go.Proofs.YtdajmekliodmcaaGreatDoor.P8
open Go.RowKit Go.Shelf
set_option linter.unusedVariables false
set_option linter.unusedSimpArgs false
theorem mul_pt (k : Nat) (p : Nat × Nat) (hk : k < 115792089237316195423570985008687907853269984665640564039457584007913129639936) (hp : onN p) (w : World) (hG0 : Glob w) :
    Calls Tryz.prog 48 #[.agg (num k), .agg (num p.1 ++ num p.2)] w fun e w' => e = .returned (.agg (num (mulN k p).1 ++ num (mulN k p).2)) ∧ Below w.heap.size w w' := mul_any k p hk hp w hG0
section
variable {P : Program} {ops : Array Oper} {Q : Exit → Act → World → Prop} {md : Region.Mode} {S : World → Prop} {f n : Nat} {listed : Array Bool} {a : Act} {w w2 : World} {rs : List Nat}
end
theorem exec_notv {ρ : Operand → Value} {o : Oper} (x : Operand) (ho : o.op = .unOp .not 4 x) (v : Value) (hx : ρ x = v) (c : Bool) (hc : v = .bool (!c)) (w : World) : (execOp ρ o).run Tryz.prog w = .ok (.value (.bool c)) w :=
  exec_notb x ho (!c) c (hx.trans hc) (by simp) w
end Go.Proofs.YtdajmekliodmcaaGreatDoor.P8
namespace Go.Proofs.YtdajmekliodmcaaGreatDoor.P8
open Go.RowKit Go.Shelf
set_option linter.unusedVariables false
set_option linter.unusedSimpArgs false
def Buf (W : World) (g : Nat) (l : List UInt8) : Prop := ∃ row z, W.heap[g]? = some (.cells row 5 (z, z + 1)) ∧ l.length ≤ z ∧ ∀ j, j < l.length → row[j]? = some (.int .u8 ((l.getD j 0).toNat : Int))
theorem conv_buf (W : World) (l : List UInt8) (hl : l.length = 32) : ∃ cap W', (Go.convert 9 33 (.string ⟨l.toArray⟩)).run Tryz.prog W = .ok (.slice (some ⟨W.heap.size, 0, none⟩) 32 cap) W' ∧ Buf W' W.heap.size l ∧ Below W.heap.size W W' ∧ W.heap.size < W'.heap.size := by
  obtain ⟨s, hs⟩ : ∃ s : ByteArray, s = ⟨l.toArray⟩ := ⟨_, rfl⟩
  have hs2 : s.size = 32 := by rw [hs]; exact hl
  have hsl : s.data.toList = l := by rw [hs]
  have h := run_bytes_of_string (P := Tryz.prog) W 9 33 5 s Tryz.underlying9 Tryz.underlying33 Tryz.underlying5
  rw [hs2] at h
  rw [← hs]
  refine ⟨_, _, h, ⟨bytesRow s (grownCap W 32 0 5), _, heap_alloc_new W _, ?_, ?_⟩, ((Below.refl _ W).alloc (Nat.le_refl _) _).drew, by show _ < (W.alloc _).heap.size; simp⟩
  · rw [hl]
    unfold bytesRow
    rw [Array.size_append, Array.size_map]
    have : s.data.size = s.size := rfl
    omega
  · intro j hj
    rw [hl] at hj
    unfold bytesRow
    have h1 : (Array.map (fun b : UInt8 => Value.int .u8 (b.toNat : Int)) s.data).size = s.size := by rw [Array.size_map]; rfl
    rw [Array.getElem?_append_left (by rw [h1, hs2]; exact hj), Array.getElem?_map]
    have h2 : s.data[j]? = some (s.data.toList.getD j 0) := by
      rw [List.getD_eq_getElem?_getD, ← Array.getElem?_toList, List.getElem?_eq_getElem (show j < s.data.toList.length from (show s.data.toList.length = 32 from hs2).symm ▸ hj)]
      rfl
    rw [h2, hsl]; rfl
theorem Buf.cell {W : World} {g : Nat} {l : List UInt8} (h : Buf W g l) (j : Nat) (hj : j < l.length) : W.cell? ⟨g, j, none⟩ = some (.int .u8 ((l.getD j 0).toNat : Int)) := by
  obtain ⟨row, z, hg, hz, hr⟩ := h
  rw [cell_of_row W g j row 5 _ hg]
  exact hr j hj
theorem Buf.free {W : World} {g : Nat} {l : List UInt8} (h : Buf W g l) (j : Nat) (hj : j < l.length) : W.frozen? ⟨g, j, none⟩ = false := by
  obtain ⟨row, z, hg, hz, hr⟩ := h
  unfold World.frozen?
  simp [hg]
  omega
theorem Buf.str {W : World} {g cap : Nat} {l : List UInt8} (h : Buf W g l) (hl : l.length = 32) : (Go.convert 33 9 (.slice (some ⟨g, 0, none⟩) 32 cap)).run Tryz.prog W = .ok (.string ⟨l.toArray⟩) W := by
  rw [← hl]
  refine run_convert_bytes_back (P := Tryz.prog) W 33 9 5 ⟨g, 0, none⟩ cap l Tryz.underlying33 Tryz.underlying5 Tryz.underlying9 (fun j hj => ?_)
  rw [addr_add, Nat.zero_add, h.cell j hj, List.getD_eq_getElem?_getD, List.getElem?_eq_getElem hj]
  rfl
theorem Buf.set {W : World} {g : Nat} {m : List UInt8} {b : UInt8} (h : Buf W g (m ++ [b])) (hm : m.length = 31) (c : UInt8) : Buf (W.setCell ⟨g, 31, none⟩ (.int .u8 (c.toNat : Int))) g (m ++ [c]) := by
  obtain ⟨row, z, hg, hz, hr⟩ := h
  refine ⟨row.setIfInBounds 31 (.int .u8 (c.toNat : Int)), z, (by rw [setCell_eq_setRow W g 31 row 5 (z, z + 1) _ hg]; exact setRow_heap W g row _ 5 (z, z + 1) hg), by simp at hz ⊢; omega, ?_⟩
  intro j hj
  have hj2 : j < (m ++ [b]).length := by simp at hj ⊢; omega
  have h31 := hr 31 (by simp [hm])
  have hsz := (Array.getElem?_eq_some_iff.1 h31).1
  rw [Array.getElem?_setIfInBounds]
  by_cases e : 31 = j
  · subst e
    rw [if_pos rfl, if_pos hsz]
    simp [List.getD_eq_getElem?_getD, List.getElem?_append_right, hm]
  · rw [if_neg e, hr j hj2]
    have hjm : j < m.length := by simp at hj; omega
    simp [List.getD_eq_getElem?_getD, List.getElem?_append_left hjm]
theorem Kt.cellOther {w0 w : World} {l : List (Nat × Array Value × TypeId)} (h : Kt w0 l w) (g j : Nat) (v : Value) (hw : w0.heap.size ≤ g) (hl : ∀ p ∈ l, p.1 ≠ g) : Kt w0 l (w.setCell ⟨g, j, none⟩ v) :=
  ⟨h.1.setCell (p := ⟨g, j, none⟩) hw _, fun p hp => (heap_setCell_other _ _ _ _ (hl p hp)).trans (h.2 p hp)⟩
theorem exec_convG {ρ : Operand → Value} {o : Oper} (s d : TypeId) (x : Operand) (ho : o.op = .convert s d x) (v : Value) (hx : ρ x = v) (u : Value) (w w2 : World) (h : (Go.convert s d v).run Tryz.prog w = .ok u w2) : (execOp ρ o).run Tryz.prog w = .ok (.value u) w2 := by
  subst hx
  unfold execOp
  simp [ho, h]
theorem exec_index44 {ρ : Operand → Value} {o : Oper} (x : Operand) (ho : o.op = .indexAddr 33 x (.const (.int .i64 31))) (hc : ρ (.const (.int .i64 31)) = .int .i64 31) (g cap : Nat) (hx : ρ x = .slice (some ⟨g, 0, none⟩) 32 cap) (w : World) :
    (execOp ρ o).run Tryz.prog w = .ok (.value (.pointer (some ⟨g, 31, none⟩))) w := by
  have hu := Tryz.underlying33
  have hz := Tryz.sizeOf5
  unfold execOp
  rw [ho]
  simp only [hx, hc]
  go_simp
theorem top_byte (n : Nat) (hn : n < 115792089237316195423570985008687907853269984665640564039457584007913129639936) : ∃ (m : List UInt8) (b : UInt8), bytesN n = m ++ [b] ∧ m.length = 31 ∧ n = leVal m + b.toNat * 256 ^ 31 := by
  have hl := bytesN_length n
  have hv := leVal_bytesN n hn
  have hne : bytesN n ≠ [] := by intro h; rw [h] at hl; cases hl
  refine ⟨(bytesN n).dropLast, (bytesN n).getLast hne, (List.dropLast_concat_getLast hne).symm, by rw [List.length_dropLast, hl], ?_⟩
  have h31 : (bytesN n).dropLast.length = 31 := by rw [List.length_dropLast, hl]
  have h := leVal_snoc (bytesN n).dropLast ((bytesN n).getLast hne)
  rw [List.dropLast_concat_getLast hne, hv, h31] at h
  exact h
theorem bytes_join (m : List UInt8) (b : UInt8) (hm : m.length = 31) : bytesN (leVal m + b.toNat * 256 ^ 31) = m ++ [b] := by
  have h := leVal_snoc m b
  rw [hm] at h
  rw [← h]
  refine leVal_inj _ _ (by rw [bytesN_length]; simp [hm]) (leVal_bytesN _ ?_)
  have h2 := leVal_lt (m ++ [b])
  rw [List.length_append, hm] at h2
  exact h2
theorem or_top7 : ∀ y : Fin 128, bits .or .u8 (y.1 : Int) 128 = ((y.1 + 128 : Nat) : Int) := by decide +kernel
theorem exec_or128 {ρ : Operand → Value} {o : Oper} (x : Operand) (ho : o.op = .binOp .or 5 x (.const (.int .u8 128)) 5) (hc : ρ (.const (.int .u8 128)) = .int .u8 128) (b c : UInt8) (hb : bits .or .u8 (b.toNat : Int) 128 = (c.toNat : Int)) (hx : ρ x = .int .u8 (b.toNat : Int)) (w : World) :
    (execOp ρ o).run Tryz.prog w = .ok (.value (.int .u8 (c.toNat : Int))) w := by
  unfold execOp
  rw [ho]
  simp only [hx, hc]
  go_simp
theorem exec_andNot128 {ρ : Operand → Value} {o : Oper} (x : Operand) (ho : o.op = .binOp .andNot 5 x (.const (.int .u8 128)) 5) (hc : ρ (.const (.int .u8 128)) = .int .u8 128) (b c : UInt8) (hb : bits .andNot .u8 (b.toNat : Int) 128 = (c.toNat : Int)) (hx : ρ x = .int .u8 (b.toNat : Int)) (w : World) :
    (execOp ρ o).run Tryz.prog w = .ok (.value (.int .u8 (c.toNat : Int))) w := by
  unfold execOp
  rw [ho]
  simp only [hx, hc]
  go_simp
theorem Buf.cell31 {W : World} {g : Nat} {m : List UInt8} {b : UInt8} (h : Buf W g (m ++ [b])) (hm : m.length = 31) : W.cell? ⟨g, 31, none⟩ = some (.int .u8 (b.toNat : Int)) := by
  have h1 := h.cell 31 (by simp [hm])
  rwa [show (m ++ [b]).getD 31 0 = b by simp [List.getD_eq_getElem?_getD, List.getElem?_append_right, hm]] at h1
theorem len31 {m : List UInt8} (b : UInt8) (hm : m.length = 31) : (m ++ [b]).length = 32 := by simp [hm]
theorem size5 : (Tryz.prog.info? 5).map (·.size) = some 1 := by kernel_rfl
theorem exec_store31 {ρ : Operand → Value} {o : Oper} (w : World) (x y : Operand) (ho : o.op = .store 5 x y) (g : Nat) (hx : ρ x = .pointer (some ⟨g, 31, none⟩)) (c : UInt8) (hy : ρ y = .int .u8 (c.toNat : Int)) {m : List UInt8} {b : UInt8} (h : Buf w g (m ++ [b])) (hm : m.length = 31) :
    (execOp ρ o).run Tryz.prog w = .ok .skip (w.setCell ⟨g, 31, none⟩ (.int .u8 (c.toNat : Int))) :=
  exec_store_one w 5 x y ho ⟨g, 31, none⟩ hx _ hy rfl rfl _ (h.cell31 hm) (h.free 31 (by simp [hm])) size5
theorem or_b (b : UInt8) (hb : b.toNat < 128) : ∃ c : UInt8, bits .or .u8 (b.toNat : Int) 128 = (c.toNat : Int) ∧ c.toNat = b.toNat + 128 := by
  refine ⟨UInt8.ofNat (b.toNat + 128), ?_, ?_⟩
  · rw [UInt8.toNat_ofNat', Nat.mod_eq_of_lt (by omega)]
    exact or_top7 ⟨b.toNat, hb⟩
  · rw [UInt8.toNat_ofNat', Nat.mod_eq_of_lt (by omega)]
theorem enc_even {x y : Nat} (h : x % 2 = 0) : bytesN (encP (x, y)) = bytesN y := by
  unfold encP
  rw [h, Nat.mul_zero, Nat.add_zero]
theorem enc_odd {x y : Nat} {m : List UInt8} {b c : UInt8} (h : x % 2 = 1) (hm : m.length = 31) (hy : y = leVal m + b.toNat * 256 ^ 31) (hc : c.toNat = b.toNat + 128) : bytesN (encP (x, y)) = m ++ [c] := by
  rw [← bytes_join m c hm]
  unfold encP
  rw [h, hc, hy, Nat.add_mul, show hb = 128 * 256 ^ 31 by decide, Nat.mul_one, Nat.add_assoc]
theorem top_small {y : Nat} (hy : y < pp) {m : List UInt8} {b : UInt8} (h : y = leVal m + b.toNat * 256 ^ 31) : b.toNat < 128 := by
  have h1 := Nat.lt_trans hy pp_hb
  rw [show hb = 128 * 256 ^ 31 by decide] at h1
  have h2 : b.toNat * 256 ^ 31 < 128 * 256 ^ 31 := by omega
  exact Nat.lt_of_mul_lt_mul_right h2
section
variable {P : Program} {ops : Array Oper} {rest : List Oper} {o : Oper} {a : Act} {w w2 : World} {Q : Exit → Act → World → Prop}
theorem wpList_runH (v : Value) (hrun : (execOp a.eval o).run P w = .ok (.value v) w2) (h : wpList P ops Q rest (a.put o.dst v) w2) (hw : Region.wanted o (yielded ops a.tmps) = true) : wpList P ops Q (o :: rest) a w :=
  wpList_step fun K hK => by
    rw [if_pos hw]
    unfold Oper.wp
    rw [hrun]
    exact hK _ _ h
theorem wpList_callH (hw : Region.wanted o (yielded ops a.tmps) = true) (g : FuncId) (args : Array Operand) (tys : Array TypeId) (ho : o.op = .call { callee := .value (.func g), args := args, argTypes := tys })
    (avs : Array Value) (eg : ∀ args w, (callFunc g args).run P w = .ok (.enter g args) w) {R : Ending → World → Prop} (hc : Calls P g avs w R)
    (hK : ∀ v w', R (.returned v) w' → wpList P ops Q rest (a.put o.dst v) w') (has : args.map a.eval = avs := by simp [Act.eval]) (hnp : ∀ c w', ¬ R (.panicked c) w' := by exact fun c w' h => by cases h.1) (hno : ∀ w', ¬ R .outgrown w' := by exact fun w' h => by cases h.1) : wpList P ops Q (o :: rest) a w :=
  wpList_step fun K hK2 => by
    rw [if_pos hw]
    have hev : a.eval (.func g) = .func (.func g) #[] #[] := rfl
    have hres : (resolve a.eval { callee := .value (.func g), args := args, argTypes := tys } o.type).run P w = .ok { target := .fn (.func g) #[], args := avs } w := by
      simp [resolve, hev, has, Deferred.ofValue]
    have hx : (execOp a.eval o).run P w = .ok (.enter g avs) w := by
      unfold execOp
      simp only [ho, Sem.run_bind, hres, Result.andThen_ok, invoke]
      simp [eg]
    unfold Oper.wp
    rw [hx]
    refine hc.mono ?_
    intro e w' hr
    cases e with
    | returned v => exact hK2 _ _ (hK v w' hr)
    | panicked c => exact (hnp c w' hr).elim
    | outgrown => exact (hno w' hr).elim
end
theorem addF_comm1 (a b : Nat) : addF a b = addF b a := by unfold addF; rw [Nat.add_comm]
theorem exec_neq32 {ρ : Operand → Value} {o : Oper} (x : Operand) (ho : o.op = .binOp .neq 3 x (.const (.int .i64 32)) 3) (hc : ρ (.const (.int .i64 32)) = .int .i64 32) (n : Nat) (b : Bool) (hb : b = !((n : Int) == 32)) (hx : ρ x = .int .i64 (n : Int)) (w : World) :
    (execOp ρ o).run Tryz.prog w = .ok (.value (.bool b)) w := by
  subst hb
  unfold execOp
  rw [ho]
  simp only [hx, hc]
  go_simp
  rfl
theorem exec_geq128 {ρ : Operand → Value} {o : Oper} (x : Operand) (ho : o.op = .binOp .geq 5 x (.const (.int .u8 128)) 5) (hc : ρ (.const (.int .u8 128)) = .int .u8 128) (n : Nat) (b : Bool) (hb : decide ((128 : Int) ≤ (n : Int)) = b) (hx : ρ x = .int .u8 (n : Int)) (w : World) :
    (execOp ρ o).run Tryz.prog w = .ok (.value (.bool b)) w := by
  unfold execOp
  rw [ho]
  simp only [hx, hc]
  go_simp
theorem exec_index31 {ρ : Operand → Value} {o : Oper} (x : Operand) (ho : o.op = .index 9 x (.const (.int .i64 31))) (hc : ρ (.const (.int .i64 31)) = .int .i64 31) (m : List UInt8) (b : UInt8) (hm : m.length = 31) (hx : ρ x = .string ⟨(m ++ [b]).toArray⟩) (w : World) :
    (execOp ρ o).run Tryz.prog w = .ok (.value (.int .u8 (b.toNat : Int))) w := by
  obtain ⟨s, hs⟩ : ∃ s : ByteArray, s = ⟨(m ++ [b]).toArray⟩ := ⟨_, rfl⟩
  have hsz : s.size = 32 := by rw [hs]; exact len31 b hm
  have hb : s[31].toNat = b.toNat := by
    subst hs
    show ((m ++ [b]).toArray[31]'(by simp [hm])).toNat = b.toNat
    simp [List.getElem_append_right, hm]
  rw [← hs] at hx
  exact exec_index_str x (.const (.int .i64 31)) ho s 31 (by omega) hx hc b.toNat hb.symm w
end Go.Proofs.YtdajmekliodmcaaGreatDoor.P8
namespace Go.Proofs.YtdajmekliodmcaaGreatDoor.P8
open Go.RowKit Go.Shelf
set_option linter.unusedVariables false
set_option linter.unusedSimpArgs false
end Go.Proofs.YtdajmekliodmcaaGreatDoor.P8
namespace Go.Proofs.YtdajmekliodmcaaGreatDoor.S7
open Go.Proofs.YtdajmekliodmcaaGreatDoor.P8
open Go.RowKit
set_option linter.unusedVariables false
set_option linter.unusedSimpArgs false
section
variable {P : Program}
theorem run_loadVar_seg (w : World) (ty : TypeId) (g off : Nat) (cs : List Value) (d : TypeDesc) (hc : ∀ j v, cs[j]? = some v → w.cell? ⟨g, off + j, none⟩ = some v)
    (hu : P.underlying ty = some d) (hd : (match d with | .struct _ | .array _ _ => true | _ => false) = true) (hi : (P.info? ty).map (·.size) = some cs.length) :
    (loadVar ty ⟨g, off, none⟩).run P w = .ok (.agg cs.toArray) w := by
  have hl : (loadCells ⟨g, off, none⟩ cs.length).run P w = .ok cs.toArray w :=
    run_loadCells_list (P := P) w ⟨g, off, none⟩ cs (fun j v hv => by rw [addr_add]; exact hc j v hv)
  cases hq : P.info? ty with
  | none => simp [hq] at hi
  | some i =>
    have hs : i.size = cs.length := by simpa [hq] using hi
    have hagg : (isAgg ty).run P w = .ok true w := by
      unfold isAgg
      rw [Sem.run_bind, run_underlying hu w]
      cases d <;> simp_all
    simp [loadVar, Sem.run_bind, hagg, sizeOf, typeInfo, hq, hs, hl]
section
variable {ops : Array Oper} {Q : Exit → Act → World → Prop} {md : Region.Mode} {fuel : Nat} {listed : Array Bool} {a : Act} {w w2 w3 : World} {i j : Nat} {rs : List Nat}
end
end
end Go.Proofs.YtdajmekliodmcaaGreatDoor.S7
namespace Go.Proofs.YtdajmekliodmcaaGreatDoor.S7
set_option linter.unusedSimpArgs false
open Go.Proofs.YtdajmekliodmcaaGreatDoor.P8
open Go.RowKit
set_option linter.unusedVariables false
theorem rowOf_one (kd : IntKind) (n : Nat) (f : Nat → Nat) : ∀ v ∈ rowOf kd n f, v.oneCell' = true := by
  intro v hv
  simp [rowOf] at hv
  obtain ⟨j, _, rfl⟩ := hv
  rfl
def Row (w : World) (g : Nat) (t : TypeId) (kd : IntKind) (n : Nat) (f : Nat → Nat) : Prop := w.heap[g]? = some (.cells (rowOf kd n f).toArray t (0, 0))
theorem Row.cell {w : World} {g : Nat} {t : TypeId} {kd : IntKind} {n : Nat} {f : Nat → Nat} (h : Row w g t kd n f) (j : Nat) (hj : j < n) : w.cell? ⟨g, j, none⟩ = some (.int kd (f j)) := by
  rw [cell_of_row w g j _ t (0, 0) h, List.getElem?_toArray, rowOf_get _ _ _ _ hj]
theorem Row.free {w : World} {g : Nat} {t : TypeId} {kd : IntKind} {n : Nat} {f : Nat → Nat} (h : Row w g t kd n f) (j : Nat) : w.frozen? ⟨g, j, none⟩ = false := by
  have h' : w.heap[g]? = some (.cells (rowOf kd n f).toArray t (0, 0)) := h
  simp [World.frozen?, h']
theorem Row.lt {w : World} {g : Nat} {t : TypeId} {kd : IntKind} {n : Nat} {f : Nat → Nat} (h : Row w g t kd n f) : g < w.heap.size := lt_of_block h
theorem Row.set {w : World} {g : Nat} {t : TypeId} {kd : IntKind} {n : Nat} {f : Nat → Nat} (h : Row w g t kd n f) (k v : Nat) : Row (w.setCell ⟨g, k, none⟩ (.int kd v)) g t kd n (upd f k v) := by
  unfold Row
  rw [← rowOf_set]
  exact heap_setCell_same w g k _ t _ h
theorem Row.other {w : World} {g : Nat} {t : TypeId} {kd : IntKind} {n : Nat} {f : Nat → Nat} (h : Row w g t kd n f) (a : Addr) (v : Value) (ha : g ≠ a.block) : Row (w.setCell a v) g t kd n f := by
  unfold Row
  rw [heap_setCell_other _ _ _ _ ha]
  exact h
theorem Row.ext {w : World} {g : Nat} {t : TypeId} {kd : IntKind} {n : Nat} {f f' : Nat → Nat} (h : Row w g t kd n f) (he : ∀ j, j < n → f j = f' j) : Row w g t kd n f' := by
  unfold Row
  rw [← rowOf_ext he]; exact h
theorem Row.seg {w : World} {g : Nat} {t : TypeId} {kd : IntKind} {n : Nat} {f : Nat → Nat} (h : Row w g t kd n f) : ∀ j v, (rowOf kd n f)[j]? = some v → w.cell? ⟨g, 0 + j, none⟩ = some v := by
  intro j v hv
  rw [cell_of_row w g (0 + j) _ t (0, 0) h, Nat.zero_add, List.getElem?_toArray, hv]
theorem Row.new (w : World) (t : TypeId) (kd : IntKind) (n : Nat) (f : Nat → Nat) : Row (w.alloc (.cells (rowOf kd n f).toArray t)) w.heap.size t kd n f := heap_alloc_new w _
theorem Row.alloc {w : World} {g : Nat} {t : TypeId} {kd : IntKind} {n : Nat} {f : Nat → Nat} (h : Row w g t kd n f) (o : Obj) : Row (w.alloc o) g t kd n f := by
  unfold Row
  rw [Below.heap_alloc _ _ _ h.lt]; exact h
theorem Row.below {w w' : World} {g : Nat} {t : TypeId} {kd : IntKind} {n : Nat} {f : Nat → Nat} (h : Row w g t kd n f) (hb : Below w.heap.size w w') : Row w' g t kd n f := by
  unfold Row
  rw [hb.block g h.lt]; exact h
theorem upd_ne (f : Nat → Nat) (k v j : Nat) (h : j ≠ k) : upd f k v j = f j := by unfold upd; rw [if_neg h]
theorem miSt_all (a b : Nat) (ha : a < 115792089237316195423570985008687907853269984665640564039457584007913129639936) (hb : b < 115792089237316195423570985008687907853269984665640564039457584007913129639936) :
    (rowOf .u64 4 (miSt (dig b) (dig a) (List.finRange 4)).1).toArray = num ((a + 115792089237316195423570985008687907853269984665640564039457584007913129639936 - b) % 115792089237316195423570985008687907853269984665640564039457584007913129639936) ∧
    (miSt (dig b) (dig a) (List.finRange 4)).2 = if a < b then 1 else 0 := by
  have hok := miSt_ok (dig b) (dig a) (dig_lt a) (List.finRange 4)
  rw [← num_val _ hok.1]
  have hv := val_dig b hb
  have hav := val_dig a ha
  have l0 := dig_lt b 0
  have l1 := dig_lt b 1
  have l2 := dig_lt b 2
  have l3 := dig_lt b 3
  have m0 := dig_lt a 0
  have m1 := dig_lt a 1
  have m2 := dig_lt a 2
  have m3 := dig_lt a 3
  rw [fin4]
  have e : miSt (dig b) (dig a) [0, 1, 2, 3] = miS (dig b) (miS (dig b) (miS (dig b) (miS (dig b) (dig a, 0) 0) 1) 2) 3 := rfl
  rw [e]
  clear e hok
  unfold valN at hav hv
  generalize dig a = x at *
  generalize dig b = y at *
  have hc : ∀ u v c : Nat, u < 18446744073709551616 → v < 18446744073709551616 → c ≤ 1 → ∃ d c2 : Nat, d = (u + 18446744073709551616 - v - c) % 18446744073709551616 ∧ c2 = (if u < v + c then 1 else 0) ∧ u + c2 * 18446744073709551616 = v + c + d ∧ d < 18446744073709551616 ∧ c2 ≤ 1 := by
    intro u v c h1 h2 h3
    refine ⟨_, _, rfl, rfl, ?_, Nat.mod_lt _ (by decide), ?_⟩
    · split <;> omega
    · split <;> decide
  obtain ⟨d0, c1, hd0, hc1, q0, r0, s0⟩ := hc (x 0) (y 0) 0 m0 l0 (by decide)
  obtain ⟨d1, c2, hd1, hc2, q1, r1, s1⟩ := hc (x 1) (y 1) c1 m1 l1 s0
  obtain ⟨d2, c3, hd2, hc3, q2, r2, s2⟩ := hc (x 2) (y 2) c2 m2 l2 s1
  obtain ⟨d3, c4, hd3, hc4, q3, r3, s3⟩ := hc (x 3) (y 3) c3 m3 l3 s2
  have e1 : miS y (x, 0) 0 = (upd x 0 d0, c1) := by rw [hd0, hc1]; rfl
  have e2 : miS y (upd x 0 d0, c1) 1 = (upd (upd x 0 d0) 1 d1, c2) := by rw [hd1, hc2]; rfl
  have e3 : miS y (upd (upd x 0 d0) 1 d1, c2) 2 = (upd (upd (upd x 0 d0) 1 d1) 2 d2, c3) := by rw [hd2, hc3]; rfl
  have e4 : miS y (upd (upd (upd x 0 d0) 1 d1) 2 d2, c3) 3 = (upd (upd (upd (upd x 0 d0) 1 d1) 2 d2) 3 d3, c4) := by rw [hd3, hc4]; rfl
  rw [e1, e2, e3, e4]
  have e5 : valN (upd (upd (upd (upd x 0 d0) 1 d1) 2 d2) 3 d3) = d0 + d1 * 18446744073709551616 + d2 * 340282366920938463463374607431768211456 + d3 * 6277101735386680763835789423207666416102355444464034512896 := rfl
  rw [e5]
  show num _ = _ ∧ c4 = _
  clear e1 e2 e3 e4 e5 hc hd0 hd1 hd2 hd3 hc1 hc2 hc3 hc4
  generalize x 0 = x0 at *
  generalize x 1 = x1 at *
  generalize x 2 = x2 at *
  generalize x 3 = x3 at *
  generalize y 0 = y0 at *
  generalize y 1 = y1 at *
  generalize y 2 = y2 at *
  generalize y 3 = y3 at *
  have hT : a + c4 * 115792089237316195423570985008687907853269984665640564039457584007913129639936 = b + (d0 + d1 * 18446744073709551616 + d2 * 340282366920938463463374607431768211456 + d3 * 6277101735386680763835789423207666416102355444464034512896) := by omega
  have hD : d0 + d1 * 18446744073709551616 + d2 * 340282366920938463463374607431768211456 + d3 * 6277101735386680763835789423207666416102355444464034512896 < 115792089237316195423570985008687907853269984665640564039457584007913129639936 := by omega
  generalize d0 + d1 * 18446744073709551616 + d2 * 340282366920938463463374607431768211456 + d3 * 6277101735386680763835789423207666416102355444464034512896 = D at *
  clear hav hv q0 q1 q2 q3
  refine ⟨congrArg num ?_, ?_⟩
  · omega
  · split <;> omega
open Go.RowKit Go.Shelf
attribute [local go_sem] Oper.semAt_some
section
variable {F : Fence} {n : Nat} {P : Program} {ops : Array Oper} {Q : Exit → Act → World → Prop} {a : Act} {w w2 : World} {rest : List Oper} {o : Oper}
variable {md : Region.Mode} {fuel : Nat} {listed : Array Bool} {w3 : World} {i j : Nat} {rs : List Nat}
end
section
variable {F : Fence} {n : Nat} {P : Program} {ops : Array Oper} {Q : Exit → Act → World → Prop} {a : Act} {w w2 : World} {rest : List Oper} {o : Oper}
end
end Go.Proofs.YtdajmekliodmcaaGreatDoor.S7
namespace Go.Proofs.YtdajmekliodmcaaGreatDoor.S7
set_option linter.unusedSimpArgs false
open Go.Proofs.YtdajmekliodmcaaGreatDoor.P8
open Go.RowKit
set_option linter.unusedVariables false
open Go.RowKit Go.Shelf
attribute [local go_sem] Oper.semAt_some
theorem load24 {W : World} {g : Nat} {f : Nat → Nat} (h : Row W g 36 .u64 4 f) : (loadVar 36 ⟨g, 0, none⟩).run Tryz.prog W = .ok (.agg (rowOf .u64 4 f).toArray) W :=
  run_loadVar_seg W 36 g 0 (rowOf .u64 4 f) _ h.seg Tryz.underlying36 rfl (size24 f)
theorem exec_store24 {ρ : Operand → Value} {o : Oper} (w : World) (x y : Operand) (ho : o.op = .store 36 x y) (g : Nat) (hx : ρ x = .pointer (some ⟨g, 0, none⟩)) (A : Array Value) (hA : IsNum A) (hy : ρ y = .agg A) (cur : Array Value) (t : TypeId)
    (hg : w.heap[g]? = some (.cells cur t (0, 0))) (h4 : cur.size = 4) : (execOp ρ o).run Tryz.prog w = .ok .skip (w.setRow g A) := by
  obtain ⟨f, rfl⟩ := hA
  have h := exec_store_seg (P := Tryz.prog) (ρ := ρ) (o := o) w 36 x y ho g 0 hx (rowOf .u64 4 f) hy cur t hg (by rw [rowOf_length]; omega) (rowOf_one _ _ _) (size24 f)
  rw [splice_all _ _ (by rw [rowOf_length]; exact h4)] at h
  exact h
theorem loadA {W : World} {g : Nat} {A : Array Value} (hA : IsNum A) (hg : W.heap[g]? = some (.cells A 36 (0, 0))) : (loadVar 36 ⟨g, 0, none⟩).run Tryz.prog W = .ok (.agg A) W := by
  obtain ⟨f, rfl⟩ := hA
  exact load24 hg
end Go.Proofs.YtdajmekliodmcaaGreatDoor.S7
namespace Go.Proofs.YtdajmekliodmcaaGreatDoor.S7
set_option linter.unusedSimpArgs false
open Go.Proofs.YtdajmekliodmcaaGreatDoor.P8
open Go.RowKit
set_option linter.unusedVariables false
section
variable {P : Program}
end
section
variable {F : Fence} {n : Nat} {P : Program} {ops : Array Oper} {Q : Exit → Act → World → Prop} {md : Region.Mode} {S : Nat → World → Prop}
theorem YieldsS.wpOpIn {T : World → Prop} {i : Nat} {o : Oper} {v : Value} {a : Act} (hro : F.round = none) (hi : ops[i]? = some o) (hy : YieldsS P ops T o v a)
    {K : Act → World → Prop} {w : World} (hT : T w) (h : K (a.put o.dst v) w) : wpOpIn F n P ops Q i K a w := by
  unfold Go.wpOpIn
  simp only [hi]
  have hab : ∀ f, o.about P w a.eval = some f → F.fn f := fun f hf => by rw [hy.2 w] at hf; cases hf
  obtain ⟨hw, hv⟩ := hy.1
  simp only [hw, if_true, Oper.wpIn, hro, Oper.semAt_none, hv w hT, Oper.uponIn]
  exact ⟨hab, h⟩
variable {T : Nat → Bool} {k : Nat} {listed : Array Bool} {a : Act} {w w2 : World} {i : Nat} {rs : List Nat}
variable {o : Oper}
end
end Go.Proofs.YtdajmekliodmcaaGreatDoor.S7
namespace Go.Proofs.YtdajmekliodmcaaGreatDoor.S7
set_option linter.unusedSimpArgs false
open Go.Proofs.YtdajmekliodmcaaGreatDoor.P8
open Go.RowKit
set_option linter.unusedVariables false
section
variable {P : Program} {ops : Array Oper} {Q : Exit → Act → World → Prop} {md : Region.Mode} {S : World → Prop} {f : Nat}
variable {n : Nat} {listed : Array Bool} {a : Act} {w w2 : World} {i : Nat} {rs : List Nat}
end
end Go.Proofs.YtdajmekliodmcaaGreatDoor.S7
namespace Go.Proofs.YtdajmekliodmcaaGreatDoor.S7
set_option linter.unusedSimpArgs false
open Go.Proofs.YtdajmekliodmcaaGreatDoor.P8
open Go.RowKit Go.Shelf
set_option linter.unusedVariables false
attribute [local go_sem] Oper.semAt_some
theorem exec_new24 {ρ : Operand → Value} {o : Oper} (w : World) (x y : Operand) (ho : o.op = .store 36 x y) (c : Array Value) (t : TypeId) (hx : ρ x = .pointer (some ⟨w.heap.size, 0, none⟩)) (A : Array Value) (hA : IsNum A) (hy : ρ y = .agg A) (h4 : c.size = 4) :
    (execOp ρ o).run Tryz.prog (w.alloc (.cells c t)) = .ok .skip (w.alloc (.cells A t)) := by
  have h := exec_store24 (w.alloc (.cells c t)) x y ho w.heap.size hx A hA hy c t (heap_alloc_new _ _) h4
  rw [setRow_alloc _ _ _ _ _ _ rfl] at h
  exact h
end Go.Proofs.YtdajmekliodmcaaGreatDoor.S7
namespace Go.Proofs.YtdajmekliodmcaaGreatDoor.S7
open Go.Proofs.YtdajmekliodmcaaGreatDoor.P8
open Go.RowKit Go.Shelf
set_option linter.unusedVariables false
set_option linter.unusedSimpArgs false
section
variable {P : Program} {ops : Array Oper} {Q : Exit → Act → World → Prop} {md : Region.Mode} {S : World → Prop} {f n : Nat} {listed : Array Bool} {a : Act} {w w2 : World} {rs : List Nat}
end
def Kn (w0 : World) (l : List (Nat × Array Value)) (w : World) : Prop := Below w0.heap.size w0 w ∧ ∀ p ∈ l, w.heap[p.1]? = some (.cells p.2 36 (0, 0))
theorem Kn.get {w0 w : World} {l : List (Nat × Array Value)} (h : Kn w0 l w) (g : Nat) (A : Array Value) (hm : (g, A) ∈ l) : w.heap[g]? = some (.cells A 36 (0, 0)) := h.2 (g, A) hm
theorem Kn.lt {w0 w : World} {l : List (Nat × Array Value)} (h : Kn w0 l w) (g : Nat) (A : Array Value) (hm : (g, A) ∈ l) : g < w.heap.size := (Array.getElem?_eq_some_iff.1 (h.get g A hm)).1
theorem Kn.below {w0 w w2 : World} {l : List (Nat × Array Value)} (h : Kn w0 l w) (hb : Below w.heap.size w w2) : Kn w0 l w2 :=
  ⟨h.1.trans (hb.mono h.1.size), fun p hp => (hb.block p.1 (Array.getElem?_eq_some_iff.1 (h.2 p hp)).1).trans (h.2 p hp)⟩
theorem Kn.drew {w0 w : World} {l : List (Nat × Array Value)} (h : Kn w0 l w) : Kn w0 l w.drew := ⟨h.1.drew, h.2⟩
theorem Kn.alloc {w0 w : World} {l : List (Nat × Array Value)} (h : Kn w0 l w) (o : Obj) : Kn w0 l (w.alloc o) := h.below ((Below.refl _ w).alloc (Nat.le_refl _) o)
theorem Kn.new {w0 w : World} {l : List (Nat × Array Value)} (h : Kn w0 l w) (A : Array Value) : Kn w0 ((w.heap.size, A) :: l) (w.alloc (.cells A 36)) :=
  ⟨(h.alloc _).1, fun p hp => by
    rcases List.mem_cons.1 hp with rfl | hp
    · exact heap_alloc_new w _
    · exact (h.alloc _).2 p hp⟩
theorem Kn.nil (w : World) : Kn w [] w := ⟨Below.refl _ _, fun p hp => by cases hp⟩
theorem Kn.sub {w0 w : World} {l m : List (Nat × Array Value)} (h : Kn w0 l w) (hs : ∀ p ∈ m, p ∈ l) : Kn w0 m w := ⟨h.1, fun p hp => h.2 p (hs p hp)⟩
theorem Kn.add {w0 w : World} {l : List (Nat × Array Value)} (h : Kn w0 l w) (g : Nat) (A : Array Value) (hg : w.heap[g]? = some (.cells A 36 (0, 0))) : Kn w0 ((g, A) :: l) w :=
  ⟨h.1, fun p hp => by
    rcases List.mem_cons.1 hp with rfl | hp
    · exact hg
    · exact h.2 p hp⟩
theorem Kn.set {w0 w : World} {l m : List (Nat × Array Value)} (h : Kn w0 l w) (g : Nat) (A B : Array Value) (hg : w.heap[g]? = some (.cells B 36 (0, 0))) (hw : w0.heap.size ≤ g) (hm : ∀ p ∈ m, p = (g, A) ∨ (p ∈ l ∧ p.1 ≠ g)) : Kn w0 m (w.setRow g A) :=
  ⟨h.1.trans ⟨rfl, rfl, rfl, by simp, fun k hk => setRow_other _ _ _ _ (by omega)⟩, fun p hp => by
    rcases hm p hp with rfl | ⟨h1, h2⟩
    · exact setRow_heap _ _ _ _ _ _ hg
    · exact (setRow_other _ _ _ _ h2).trans (h.2 p h1)⟩
theorem Kn.load {w0 w : World} {l : List (Nat × Array Value)} (h : Kn w0 l w) (g : Nat) (A : Array Value) (hm : (g, A) ∈ l) (hA : IsNum A) : (loadVar 36 ⟨g, 0, none⟩).run Tryz.prog w = .ok (.agg A) w := loadA hA (h.get g A hm)
theorem Kn.cell {w0 w : World} {l : List (Nat × Array Value)} (h : Kn w0 l w) (g : Nat) (A : Array Value) (hm : (g, A) ∈ l) (j : Nat) : w.cell? ⟨g, j, none⟩ = A[j]? := cell_of_row w g j A 36 (0, 0) (h.get g A hm)
theorem exec_store_kn {ρ : Operand → Value} {o : Oper} {w0 : World} (w : World) {l : List (Nat × Array Value)} (h : Kn w0 l w) (x y : Operand) (ho : o.op = .store 36 x y) (g : Nat) (hx : ρ x = .pointer (some ⟨g, 0, none⟩)) (A : Array Value) (hA : IsNum A) (hy : ρ y = .agg A)
    (B : Array Value) (hB : IsNum B) (hm : (g, B) ∈ l) : (execOp ρ o).run Tryz.prog w = .ok .skip (w.setRow g A) :=
  exec_store24 w x y ho g hx A hA hy B 36 (h.get g B hm) hB.size
end Go.Proofs.YtdajmekliodmcaaGreatDoor.S7
