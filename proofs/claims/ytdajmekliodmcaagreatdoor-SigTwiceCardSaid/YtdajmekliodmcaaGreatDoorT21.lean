/- Several texts, one behind the other; each says by itself what it proves, and on what conditions. -/
import Derived.Test.YtdajmekliodmcaaGreatDoorT20
import Derived.Test.YtdajmekliodmcaaGreatDoorRows
import Derived.WalkKit
import Derived.WalkSpells
import Derived.WalkLawsBesides
import Derived.Handy
import Derived.Lib.Hide
import Derived.RegionTactic
import Derived.Maps.AppendAt
import Derived.Outline
import Derived.BigQuiet
import Derived.Deep.QuietTactic
import Derived.OneCell
import Derived.RangeFuncNested
import Derived.RangeFuncBound
import Derived.RangeFuncCalls
import Derived.RangeFuncLeaves
import Derived.RangeFuncFrom
import Derived.Shelf.Abstract
import Derived.Shelf.RegionOpen
import Derived.OwnWalkIn
import Derived.TacticsInMore
import Derived.LoopNIn
import Derived.LoopIn
import Derived.RegionIn
import Derived.Deep.RegionWith
import Derived.Deep.RegionHeld3
import Derived.Laws.Externs
import Derived.Shelf.Spec.BitsCarry
/- Products of package point, said of a pair. No condition but what it names. -/
namespace Go.Proofs.YtdajmekliodmcaaGreatDoor.P8
open Go.RowKit Go.Shelf
set_option linter.unusedVariables false
set_option linter.unusedSimpArgs false
theorem mul_pt (k : Nat) (p : Nat × Nat) (hk : k < 115792089237316195423570985008687907853269984665640564039457584007913129639936) (hp : onN p) (w : World) (hG0 : Glob w) :
    Calls Tryz.prog 48 #[.agg (num k), .agg (num p.1 ++ num p.2)] w fun e w' => e = .returned (.agg (num (mulN k p).1 ++ num (mulN k p).2)) ∧ Below w.heap.size w w' := mul_any k p hk hp w hG0
end Go.Proofs.YtdajmekliodmcaaGreatDoor.P8
/- Numbers and points held against one another; what is not. No condition but what each names. -/
namespace Go.Proofs.YtdajmekliodmcaaGreatDoor.P8
open Go.RowKit Go.Shelf
set_option linter.unusedVariables false
set_option linter.unusedSimpArgs false
section
variable {P : Program} {ops : Array Oper} {Q : Exit → Act → World → Prop} {md : Region.Mode} {S : World → Prop} {f n : Nat} {listed : Array Bool} {a : Act} {w w2 : World} {rs : List Nat}
end
end Go.Proofs.YtdajmekliodmcaaGreatDoor.P8
/- Bytes of a call's own, made of a text: what they are, one of them stored, a text of them; the last byte of a point's number. No condition but what each names. -/
namespace Go.Proofs.YtdajmekliodmcaaGreatDoor.P8
open Go.RowKit Go.Shelf
set_option linter.unusedVariables false
set_option linter.unusedSimpArgs false
/-- A row of bytes lies in a block (behind it there may be more). -/
def Buf (W : World) (g : Nat) (l : List UInt8) : Prop := ∃ row z, W.heap[g]? = some (.cells row 5 (z, z + 1)) ∧ l.length ≤ z ∧ ∀ j, j < l.length → row[j]? = some (.int .u8 ((l.getD j 0).toNat : Int))
theorem conv_buf (W : World) (l : List UInt8) (hl : l.length = 32) : ∃ cap W', (Go.convert 9 33 (.string ⟨l.toArray⟩)).run Tryz.prog W = .ok (.slice (some ⟨W.heap.size, 0, none⟩) 32 cap) W' ∧ Buf W' W.heap.size l ∧ Below W.heap.size W W' ∧ W.heap.size < W'.heap.size := by
  obtain ⟨s, hs⟩ : ∃ s : ByteArray, s = ⟨l.toArray⟩ := ⟨_, rfl⟩
  have hs2 : s.size = 32 := by rw [hs]; exact hl
  have hsl : s.data.toList = l := by rw [hs]
  have h := run_bytes_of_string (P := Tryz.prog) W 9 33 5 s Tryz.underlying9 Tryz.underlying33 Tryz.underlying5
  rw [hs2] at h
  rw [← hs]
  refine ⟨_, _, h, ⟨bytesRow s (grownCap W 32 0 5), _, heap_alloc_new W _, ?_, ?_⟩, ((Below.refl _ W).alloc (Nat.le_refl _) _).drew, by show _ < (W.alloc _).heap.size; simp⟩
  · rw [hl]
    unfold bytesRow
    rw [Array.size_append, Array.size_map]
    have : s.data.size = s.size := rfl
    omega
  · intro j hj
    rw [hl] at hj
    unfold bytesRow
    have h1 : (Array.map (fun b : UInt8 => Value.int .u8 (b.toNat : Int)) s.data).size = s.size := by rw [Array.size_map]; rfl
    rw [Array.getElem?_append_left (by rw [h1, hs2]; exact hj), Array.getElem?_map]
    have h2 : s.data[j]? = some (s.data.toList.getD j 0) := by
      rw [List.getD_eq_getElem?_getD, ← Array.getElem?_toList, List.getElem?_eq_getElem (show j < s.data.toList.length from (show s.data.toList.length = 32 from hs2).symm ▸ hj)]
      rfl
    rw [h2, hsl]; rfl
theorem Buf.cell {W : World} {g : Nat} {l : List UInt8} (h : Buf W g l) (j : Nat) (hj : j < l.length) : W.cell? ⟨g, j, none⟩ = some (.int .u8 ((l.getD j 0).toNat : Int)) := by
  obtain ⟨row, z, hg, hz, hr⟩ := h
  rw [cell_of_row W g j row 5 _ hg]
  exact hr j hj
theorem Buf.free {W : World} {g : Nat} {l : List UInt8} (h : Buf W g l) (j : Nat) (hj : j < l.length) : W.frozen? ⟨g, j, none⟩ = false := by
  obtain ⟨row, z, hg, hz, hr⟩ := h
  unfold World.frozen?
  simp [hg]
  omega
theorem Buf.str {W : World} {g cap : Nat} {l : List UInt8} (h : Buf W g l) (hl : l.length = 32) : (Go.convert 33 9 (.slice (some ⟨g, 0, none⟩) 32 cap)).run Tryz.prog W = .ok (.string ⟨l.toArray⟩) W := by
  rw [← hl]
  refine run_convert_bytes_back (P := Tryz.prog) W 33 9 5 ⟨g, 0, none⟩ cap l Tryz.underlying33 Tryz.underlying5 Tryz.underlying9 (fun j hj => ?_)
  rw [addr_add, Nat.zero_add, h.cell j hj, List.getD_eq_getElem?_getD, List.getElem?_eq_getElem hj]
  rfl
theorem Buf.set {W : World} {g : Nat} {m : List UInt8} {b : UInt8} (h : Buf W g (m ++ [b])) (hm : m.length = 31) (c : UInt8) : Buf (W.setCell ⟨g, 31, none⟩ (.int .u8 (c.toNat : Int))) g (m ++ [c]) := by
  obtain ⟨row, z, hg, hz, hr⟩ := h
  refine ⟨row.setIfInBounds 31 (.int .u8 (c.toNat : Int)), z, (by rw [setCell_eq_setRow W g 31 row 5 (z, z + 1) _ hg]; exact setRow_heap W g row _ 5 (z, z + 1) hg), by simp at hz ⊢; omega, ?_⟩
  intro j hj
  have hj2 : j < (m ++ [b]).length := by simp at hj ⊢; omega
  have h31 := hr 31 (by simp [hm])
  have hsz := (Array.getElem?_eq_some_iff.1 h31).1
  rw [Array.getElem?_setIfInBounds]
  by_cases e : 31 = j
  · subst e
    rw [if_pos rfl, if_pos hsz]
    simp [List.getD_eq_getElem?_getD, List.getElem?_append_right, hm]
  · rw [if_neg e, hr j hj2]
    have hjm : j < m.length := by simp at hj; omega
    simp [List.getD_eq_getElem?_getD, List.getElem?_append_left hjm]
theorem Kt.cellOther {w0 w : World} {l : List (Nat × Array Value × TypeId)} (h : Kt w0 l w) (g j : Nat) (v : Value) (hw : w0.heap.size ≤ g) (hl : ∀ p ∈ l, p.1 ≠ g) : Kt w0 l (w.setCell ⟨g, j, none⟩ v) :=
  ⟨h.1.setCell (p := ⟨g, j, none⟩) hw _, fun p hp => (heap_setCell_other _ _ _ _ (hl p hp)).trans (h.2 p hp)⟩
theorem exec_convG {ρ : Operand → Value} {o : Oper} (s d : TypeId) (x : Operand) (ho : o.op = .convert s d x) (v : Value) (hx : ρ x = v) (u : Value) (w w2 : World) (h : (Go.convert s d v).run Tryz.prog w = .ok u w2) : (execOp ρ o).run Tryz.prog w = .ok (.value u) w2 := by
  subst hx
  unfold execOp
  simp [ho, h]
theorem exec_index44 {ρ : Operand → Value} {o : Oper} (x : Operand) (ho : o.op = .indexAddr 33 x (.const (.int .i64 31))) (hc : ρ (.const (.int .i64 31)) = .int .i64 31) (g cap : Nat) (hx : ρ x = .slice (some ⟨g, 0, none⟩) 32 cap) (w : World) :
    (execOp ρ o).run Tryz.prog w = .ok (.value (.pointer (some ⟨g, 31, none⟩))) w := by
  have hu := Tryz.underlying33
  have hz := Tryz.sizeOf5
  unfold execOp
  rw [ho]
  simp only [hx, hc]
  go_simp
theorem top_byte (n : Nat) (hn : n < 115792089237316195423570985008687907853269984665640564039457584007913129639936) : ∃ (m : List UInt8) (b : UInt8), bytesN n = m ++ [b] ∧ m.length = 31 ∧ n = leVal m + b.toNat * 256 ^ 31 := by
  have hl := bytesN_length n
  have hv := leVal_bytesN n hn
  have hne : bytesN n ≠ [] := by intro h; rw [h] at hl; cases hl
  refine ⟨(bytesN n).dropLast, (bytesN n).getLast hne, (List.dropLast_concat_getLast hne).symm, by rw [List.length_dropLast, hl], ?_⟩
  have h31 : (bytesN n).dropLast.length = 31 := by rw [List.length_dropLast, hl]
  have h := leVal_snoc (bytesN n).dropLast ((bytesN n).getLast hne)
  rw [List.dropLast_concat_getLast hne, hv, h31] at h
  exact h
theorem bytes_join (m : List UInt8) (b : UInt8) (hm : m.length = 31) : bytesN (leVal m + b.toNat * 256 ^ 31) = m ++ [b] := by
  have h := leVal_snoc m b
  rw [hm] at h
  rw [← h]
  refine leVal_inj _ _ (by rw [bytesN_length]; simp [hm]) (leVal_bytesN _ ?_)
  have h2 := leVal_lt (m ++ [b])
  rw [List.length_append, hm] at h2
  exact h2
theorem or_top7 : ∀ y : Fin 128, bits .or .u8 (y.1 : Int) 128 = ((y.1 + 128 : Nat) : Int) := by decide +kernel
theorem exec_or128 {ρ : Operand → Value} {o : Oper} (x : Operand) (ho : o.op = .binOp .or 5 x (.const (.int .u8 128)) 5) (hc : ρ (.const (.int .u8 128)) = .int .u8 128) (b c : UInt8) (hb : bits .or .u8 (b.toNat : Int) 128 = (c.toNat : Int)) (hx : ρ x = .int .u8 (b.toNat : Int)) (w : World) :
    (execOp ρ o).run Tryz.prog w = .ok (.value (.int .u8 (c.toNat : Int))) w := by
  unfold execOp
  rw [ho]
  simp only [hx, hc]
  go_simp
theorem Buf.cell31 {W : World} {g : Nat} {m : List UInt8} {b : UInt8} (h : Buf W g (m ++ [b])) (hm : m.length = 31) : W.cell? ⟨g, 31, none⟩ = some (.int .u8 (b.toNat : Int)) := by
  have h1 := h.cell 31 (by simp [hm])
  rwa [show (m ++ [b]).getD 31 0 = b by simp [List.getD_eq_getElem?_getD, List.getElem?_append_right, hm]] at h1
theorem len31 {m : List UInt8} (b : UInt8) (hm : m.length = 31) : (m ++ [b]).length = 32 := by simp [hm]
theorem size5 : (Tryz.prog.info? 5).map (·.size) = some 1 := by kernel_rfl
theorem exec_store31 {ρ : Operand → Value} {o : Oper} (w : World) (x y : Operand) (ho : o.op = .store 5 x y) (g : Nat) (hx : ρ x = .pointer (some ⟨g, 31, none⟩)) (c : UInt8) (hy : ρ y = .int .u8 (c.toNat : Int)) {m : List UInt8} {b : UInt8} (h : Buf w g (m ++ [b])) (hm : m.length = 31) :
    (execOp ρ o).run Tryz.prog w = .ok .skip (w.setCell ⟨g, 31, none⟩ (.int .u8 (c.toNat : Int))) :=
  exec_store_one w 5 x y ho ⟨g, 31, none⟩ hx _ hy rfl rfl _ (h.cell31 hm) (h.free 31 (by simp [hm])) size5
theorem or_b (b : UInt8) (hb : b.toNat < 128) : ∃ c : UInt8, bits .or .u8 (b.toNat : Int) 128 = (c.toNat : Int) ∧ c.toNat = b.toNat + 128 := by
  refine ⟨UInt8.ofNat (b.toNat + 128), ?_, ?_⟩
  · rw [UInt8.toNat_ofNat', Nat.mod_eq_of_lt (by omega)]
    exact or_top7 ⟨b.toNat, hb⟩
  · rw [UInt8.toNat_ofNat', Nat.mod_eq_of_lt (by omega)]
/-- The bytes of a point's number, of its Y's bytes. -/
theorem enc_even {x y : Nat} (h : x % 2 = 0) : bytesN (encP (x, y)) = bytesN y := by
  unfold encP
  rw [h, Nat.mul_zero, Nat.add_zero]
theorem enc_odd {x y : Nat} {m : List UInt8} {b c : UInt8} (h : x % 2 = 1) (hm : m.length = 31) (hy : y = leVal m + b.toNat * 256 ^ 31) (hc : c.toNat = b.toNat + 128) : bytesN (encP (x, y)) = m ++ [c] := by
  rw [← bytes_join m c hm]
  unfold encP
  rw [h, hc, hy, Nat.add_mul, show hb = 128 * 256 ^ 31 by decide, Nat.mul_one, Nat.add_assoc]
theorem top_small {y : Nat} (hy : y < pp) {m : List UInt8} {b : UInt8} (h : y = leVal m + b.toNat * 256 ^ 31) : b.toNat < 128 := by
  have h1 := Nat.lt_trans hy pp_hb
  rw [show hb = 128 * 256 ^ 31 by decide] at h1
  have h2 : b.toNat * 256 ^ 31 < 128 * 256 ^ 31 := by omega
  exact Nat.lt_of_mul_lt_mul_right h2
end Go.Proofs.YtdajmekliodmcaaGreatDoor.P8
/- Operations under guards in a region that does not draw; numbers with a mark, said of whole rows. No condition but what each names. -/
namespace Go.Proofs.YtdajmekliodmcaaGreatDoor.P8
open Go.RowKit Go.Shelf
set_option linter.unusedVariables false
set_option linter.unusedSimpArgs false
section
variable {P : Program} {ops : Array Oper} {rest : List Oper} {o : Oper} {a : Act} {w w2 : World} {Q : Exit → Act → World → Prop}
end
end Go.Proofs.YtdajmekliodmcaaGreatDoor.P8
/- Texts, truths, small numbers held against one another; a field of a struct. No condition but what each names. -/
namespace Go.Proofs.YtdajmekliodmcaaGreatDoor.P8
open Go.RowKit Go.Shelf
set_option linter.unusedVariables false
set_option linter.unusedSimpArgs false
end Go.Proofs.YtdajmekliodmcaaGreatDoor.P8
/- Laws on operations over rows of cells, as the later texts use them: a whole aggregate read out of a row, stored into it, an append of one element, one step of a region that draws its order. No condition but what each law names. -/
namespace Go.Proofs.YtdajmekliodmcaaGreatDoor.S7
open Go.RowKit
set_option linter.unusedVariables false
set_option linter.unusedSimpArgs false

section
variable {P : Program}

theorem addr_add (g o j : Nat) : (⟨g, o, none⟩ : Addr).add j = ⟨g, o + j, none⟩ := by unfold Addr.add; split <;> simp_all

/-- A whole aggregate read out of the middle of a block. -/
theorem run_loadVar_seg (w : World) (ty : TypeId) (g off : Nat) (cs : List Value) (d : TypeDesc) (hc : ∀ j v, cs[j]? = some v → w.cell? ⟨g, off + j, none⟩ = some v)
    (hu : P.underlying ty = some d) (hd : (match d with | .struct _ | .array _ _ => true | _ => false) = true) (hi : (P.info? ty).map (·.size) = some cs.length) :
    (loadVar ty ⟨g, off, none⟩).run P w = .ok (.agg cs.toArray) w := by
  have hl : (loadCells ⟨g, off, none⟩ cs.length).run P w = .ok cs.toArray w :=
    run_loadCells_list (P := P) w ⟨g, off, none⟩ cs (fun j v hv => by rw [addr_add]; exact hc j v hv)
  cases hq : P.info? ty with
  | none => simp [hq] at hi
  | some i =>
    have hs : i.size = cs.length := by simpa [hq] using hi
    have hagg : (isAgg ty).run P w = .ok true w := by
      unfold isAgg
      rw [Sem.run_bind, run_underlying hu w]
      cases d <;> simp_all
    simp [loadVar, Sem.run_bind, hagg, sizeOf, typeInfo, hq, hs, hl]

/-- What a row's cells are behind a store of cs at off. -/
def splice (cur : Array Value) (off : Nat) (cs : List Value) : Array Value := (cur.toList.take off ++ cs ++ cur.toList.drop (off + cs.length)).toArray

theorem run_storeVar_seg (w : World) (ty : TypeId) (g off : Nat) (cur : Array Value) (t : TypeId) (cs : List Value) (hg : w.heap[g]? = some (.cells cur t (0, 0))) (hfit : off + cs.length ≤ cur.size)
    (h1 : ∀ v ∈ cs, v.oneCell' = true) (hi : (P.info? ty).map (·.size) = some cs.length) :
    (storeVar ty ⟨g, off, none⟩ (.agg cs.toArray)).run P w = .ok () (w.setRow g (splice cur off cs)) := by
  have hst := run_storeCells_at P g off t cs 0 cur w hg (by simpa using hfit) h1
  cases hq : P.info? ty with
  | none => simp [hq] at hi
  | some i =>
    have hs : i.size = cs.length := by simpa [hq] using hi
    simp only [Nat.add_zero] at hst
    simp [storeVar, sizeOf, typeInfo, hq, hs, Value.cells, hst, splice]

/-- Whatever one operation comes to, told beforehand. -/
theorem wpList_run {ops : Array Oper} {rest : List Oper} {o : Oper} {a : Act} {w w2 : World} {Q : Exit → Act → World → Prop} (hgd : o.guard = none) (v : Value)
    (hrun : (execOp a.eval o).run P w = .ok (.value v) w2) (h : wpList P ops Q rest (a.put o.dst v) w2) : wpList P ops Q (o :: rest) a w :=
  wpList_plain hgd fun K hK => by unfold Oper.wp; rw [hrun]; exact hK _ _ h

theorem wpList_run0 {ops : Array Oper} {rest : List Oper} {o : Oper} {a : Act} {w w2 : World} {Q : Exit → Act → World → Prop} (hgd : o.guard = none)
    (hrun : (execOp a.eval o).run P w = .ok .skip w2) (h : wpList P ops Q rest (a.put o.dst undef) w2) : wpList P ops Q (o :: rest) a w :=
  wpList_plain hgd fun K hK => by unfold Oper.wp; rw [hrun]; exact hK _ _ h

theorem exec_build1 {ρ : Operand → Value} {o : Oper} (w : World) (t : TypeId) (k : Nat) (x : Operand) (ho : o.op = .build t #[(k, x)]) (u : Value) (hx : ρ x = u) (v : Value)
    (hrun : (Instr.build t #[(k, u)]).run P w = .ok v w) : (execOp ρ o).run P w = .ok (.value v) w := by
  subst hx
  unfold execOp
  simp [ho, hrun]

theorem exec_store_seg {ρ : Operand → Value} {o : Oper} (w : World) (ty : TypeId) (x y : Operand) (ho : o.op = .store ty x y)
    (g off : Nat) (hx : ρ x = .pointer (some ⟨g, off, none⟩)) (cs : List Value) (hy : ρ y = .agg cs.toArray) (cur : Array Value) (t : TypeId) (hg : w.heap[g]? = some (.cells cur t (0, 0))) (hfit : off + cs.length ≤ cur.size)
    (h1 : ∀ v ∈ cs, v.oneCell' = true) (hi : (P.info? ty).map (·.size) = some cs.length) :
    (execOp ρ o).run P w = .ok .skip (w.setRow g (splice cur off cs)) := by
  unfold execOp
  simp only [ho, hx, hy, Instr.storeAt, Instr.sureAddr, Sem.run_bind, Sem.run_pure, Result.andThen_ok, run_storeVar_seg w ty g off cur t cs hg hfit h1 hi]

/-- A new variable of an aggregate's type. -/
theorem exec_alloc_agg {ρ : Operand → Value} {o : Oper} (w : World) (ty : TypeId) (ho : o.op = .alloc ty) (cs : Array Value) (hz : (zeroValue ty).run P w = .ok (.agg cs) w) :
    (execOp ρ o).run P w = .ok (.value (.pointer (some ⟨w.heap.size, 0, none⟩))) (w.alloc (.cells cs ty)) := by
  unfold execOp
  simp only [ho, Instr.alloc, Sem.run_bind, hz, Result.andThen_ok, newVar, newRow, Value.cells, run_newObj_alloc, Sem.run_pure]

theorem setRow_alloc (w : World) (c c2 : Array Value) (t : TypeId) (fr : Nat × Nat) (k : Nat) (hk : k = w.heap.size) : (w.alloc (.cells c t fr)).setRow k c2 = w.alloc (.cells c2 t fr) := by
  subst hk
  have e : (w.heap.push (Obj.cells c t fr)).modify w.heap.size (fun | .cells _ elem f => .cells c2 elem f | o => o) = w.heap.push (Obj.cells c2 t fr) := by
    apply Array.ext
    · rw [Array.size_modify, Array.size_push, Array.size_push]
    · intro i h1 h2
      rw [Array.getElem_modify]
      by_cases e : w.heap.size = i
      · subst e; rw [if_pos rfl, Array.getElem_push_eq, Array.getElem_push_eq]
      · have h3 : i < w.heap.size := by rw [Array.size_push] at h2; omega
        rw [if_neg e, Array.getElem_push_lt h3, Array.getElem_push_lt h3]
  unfold World.setRow World.alloc
  exact congrArg (fun h : Array Obj => ({ w with heap := h } : World)) e

theorem splice_all (cur : Array Value) (cs : List Value) (h : cur.size = cs.length) : splice cur 0 cs = cs.toArray := by
  unfold splice
  simp [List.drop_eq_nil_of_le, h]

theorem AllReady.run {ops : Array Oper} {Q : Exit → Act → World → Prop} {md : Region.Mode} {fuel : Nat} {listed : Array Bool} {a : Act} {w w2 : World} {i : Nat} {o : Oper} {rs : List Nat} (ho : ops[i]? = some o) (hg : o.guard = none) (v : Value)
    (hrun : (execOp a.eval o).run P w = .ok (.value v) w2) (h : wpAny P md ops Q fuel (listed.setIfInBounds i true) (a.put o.dst v) w2)
    (hs : AllReady P md ops Q fuel listed a w rs) : AllReady P md ops Q fuel listed a w (i :: rs) :=
  AllReady.cons ho (fun K' hK => by rw [if_pos (by simp [Region.wanted, hg])]; unfold Oper.wp; rw [hrun]; exact hK _ _ h) hs

theorem AllReady.run0 {ops : Array Oper} {Q : Exit → Act → World → Prop} {md : Region.Mode} {fuel : Nat} {listed : Array Bool} {a : Act} {w w2 : World} {i : Nat} {o : Oper} {rs : List Nat} (ho : ops[i]? = some o) (hg : o.guard = none)
    (hrun : (execOp a.eval o).run P w = .ok .skip w2) (h : wpAny P md ops Q fuel (listed.setIfInBounds i true) (a.put o.dst undef) w2)
    (hs : AllReady P md ops Q fuel listed a w rs) : AllReady P md ops Q fuel listed a w (i :: rs) :=
  AllReady.cons ho (fun K' hK => by rw [if_pos (by simp [Region.wanted, hg])]; unfold Oper.wp; rw [hrun]; exact hK _ _ h) hs

section
variable {ops : Array Oper} {Q : Exit → Act → World → Prop} {md : Region.Mode} {fuel : Nat} {listed : Array Bool} {a : Act} {w w2 w3 : World} {i j : Nat} {rs : List Nat}
theorem AllReady.op (d : Option Tmp) (opr : Op) (ho : (ops[i]?).map (fun o => (o.dst, o.op, o.guard)) = some (d, opr, none)) (v : Value)
    (hrun : ∀ o : Oper, o.op = opr → (execOp a.eval o).run P w = .ok (.value v) w2) (h : wpAny P md ops Q fuel (listed.setIfInBounds i true) (a.put d v) w2)
    (hs : AllReady P md ops Q fuel listed a w rs) : AllReady P md ops Q fuel listed a w (i :: rs) := by
  cases hq : ops[i]? with
  | none => simp [hq] at ho
  | some o =>
    simp [hq] at ho
    obtain ⟨rfl, rfl, hg⟩ := ho
    exact AllReady.run hq hg v (hrun o rfl) h hs
theorem AllReady.op0 (opr : Op) (ho : (ops[i]?).map (fun o => (o.dst, o.op, o.guard)) = some (none, opr, none))
    (hrun : ∀ o : Oper, o.op = opr → (execOp a.eval o).run P w = .ok .skip w2) (h : wpAny P md ops Q fuel (listed.setIfInBounds i true) a w2)
    (hs : AllReady P md ops Q fuel listed a w rs) : AllReady P md ops Q fuel listed a w (i :: rs) := by
  cases hq : ops[i]? with
  | none => simp [hq] at ho
  | some o =>
    simp [hq] at ho
    obtain ⟨hd, rfl, hg⟩ := ho
    exact AllReady.run0 hq hg (hrun o rfl) (by rw [hd]; exact h) hs
end

end
end Go.Proofs.YtdajmekliodmcaaGreatDoor.S7
/- Rows of numbers in memory, and how they turn. No condition. -/
namespace Go.Proofs.YtdajmekliodmcaaGreatDoor.S7
set_option linter.unusedSimpArgs false
open Go.RowKit
set_option linter.unusedVariables false
/-- The cells of a row of n numbers of one kind. -/
def rowOf (kd : IntKind) (n : Nat) (f : Nat → Nat) : List Value := (List.range n).map fun j => Value.int kd (f j)
theorem rowOf_get (kd : IntKind) (n : Nat) (f : Nat → Nat) (j : Nat) (hj : j < n) : (rowOf kd n f)[j]? = some (.int kd (f j)) := by
  unfold rowOf
  rw [List.getElem?_map, List.getElem?_range hj]; rfl
theorem rowOf_length (kd : IntKind) (n : Nat) (f : Nat → Nat) : (rowOf kd n f).length = n := by simp [rowOf]
theorem rowOf_size (kd : IntKind) (n : Nat) (f : Nat → Nat) : (rowOf kd n f).toArray.size = n := by simp [rowOf]
theorem rowOf_one (kd : IntKind) (n : Nat) (f : Nat → Nat) : ∀ v ∈ rowOf kd n f, v.oneCell' = true := by
  intro v hv
  simp [rowOf] at hv
  obtain ⟨j, _, rfl⟩ := hv
  rfl
theorem rowOf_ext {kd : IntKind} {n : Nat} {f g : Nat → Nat} (h : ∀ j, j < n → f j = g j) : rowOf kd n f = rowOf kd n g := by
  unfold rowOf
  apply List.map_congr_left
  intro j hj
  rw [h j (List.mem_range.1 hj)]
def upd (f : Nat → Nat) (k v : Nat) : Nat → Nat := fun j => if j = k then v else f j
theorem rowOf_set (kd : IntKind) (n : Nat) (f : Nat → Nat) (k v : Nat) : (rowOf kd n f).toArray.setIfInBounds k (.int kd v) = (rowOf kd n (upd f k v)).toArray := by
  apply Array.ext'
  rw [Array.toList_setIfInBounds]
  apply List.ext_getElem?
  intro j
  show ((rowOf kd n f).set k _)[j]? = (rowOf kd n (upd f k v))[j]?
  rw [List.getElem?_set, rowOf_length]
  by_cases hj : j < n
  · rw [rowOf_get _ _ _ _ hj, rowOf_get _ _ _ _ hj]
    unfold upd
    by_cases e : k = j
    · subst e
      rw [if_pos rfl, if_pos hj, if_pos rfl]
    · rw [if_neg e, if_neg (fun h => e h.symm)]
  · rw [List.getElem?_eq_none (by rw [rowOf_length]; omega), List.getElem?_eq_none (by rw [rowOf_length]; omega)]
    by_cases e : k = j
    · rw [if_pos e, if_neg (by omega)]
    · rw [if_neg e]

/-- Block g is a row of n numbers. -/
def Row (w : World) (g : Nat) (t : TypeId) (kd : IntKind) (n : Nat) (f : Nat → Nat) : Prop := w.heap[g]? = some (.cells (rowOf kd n f).toArray t (0, 0))
theorem Row.cell {w : World} {g : Nat} {t : TypeId} {kd : IntKind} {n : Nat} {f : Nat → Nat} (h : Row w g t kd n f) (j : Nat) (hj : j < n) : w.cell? ⟨g, j, none⟩ = some (.int kd (f j)) := by
  rw [cell_of_row w g j _ t (0, 0) h, List.getElem?_toArray, rowOf_get _ _ _ _ hj]
theorem Row.free {w : World} {g : Nat} {t : TypeId} {kd : IntKind} {n : Nat} {f : Nat → Nat} (h : Row w g t kd n f) (j : Nat) : w.frozen? ⟨g, j, none⟩ = false := by
  have h' : w.heap[g]? = some (.cells (rowOf kd n f).toArray t (0, 0)) := h
  simp [World.frozen?, h']
theorem Row.lt {w : World} {g : Nat} {t : TypeId} {kd : IntKind} {n : Nat} {f : Nat → Nat} (h : Row w g t kd n f) : g < w.heap.size := lt_of_block h
theorem Row.set {w : World} {g : Nat} {t : TypeId} {kd : IntKind} {n : Nat} {f : Nat → Nat} (h : Row w g t kd n f) (k v : Nat) : Row (w.setCell ⟨g, k, none⟩ (.int kd v)) g t kd n (upd f k v) := by
  unfold Row
  rw [← rowOf_set]
  exact heap_setCell_same w g k _ t _ h
theorem Row.other {w : World} {g : Nat} {t : TypeId} {kd : IntKind} {n : Nat} {f : Nat → Nat} (h : Row w g t kd n f) (a : Addr) (v : Value) (ha : g ≠ a.block) : Row (w.setCell a v) g t kd n f := by
  unfold Row
  rw [heap_setCell_other _ _ _ _ ha]
  exact h
theorem Row.ext {w : World} {g : Nat} {t : TypeId} {kd : IntKind} {n : Nat} {f f' : Nat → Nat} (h : Row w g t kd n f) (he : ∀ j, j < n → f j = f' j) : Row w g t kd n f' := by
  unfold Row
  rw [← rowOf_ext he]; exact h
theorem Row.seg {w : World} {g : Nat} {t : TypeId} {kd : IntKind} {n : Nat} {f : Nat → Nat} (h : Row w g t kd n f) : ∀ j v, (rowOf kd n f)[j]? = some v → w.cell? ⟨g, 0 + j, none⟩ = some v := by
  intro j v hv
  rw [cell_of_row w g (0 + j) _ t (0, 0) h, Nat.zero_add, List.getElem?_toArray, hv]
theorem Row.new (w : World) (t : TypeId) (kd : IntKind) (n : Nat) (f : Nat → Nat) : Row (w.alloc (.cells (rowOf kd n f).toArray t)) w.heap.size t kd n f := heap_alloc_new w _
theorem Row.alloc {w : World} {g : Nat} {t : TypeId} {kd : IntKind} {n : Nat} {f : Nat → Nat} (h : Row w g t kd n f) (o : Obj) : Row (w.alloc o) g t kd n f := by
  unfold Row
  rw [Below.heap_alloc _ _ _ h.lt]; exact h
theorem Row.below {w w' : World} {g : Nat} {t : TypeId} {kd : IntKind} {n : Nat} {f : Nat → Nat} (h : Row w g t kd n f) (hb : Below w.heap.size w w') : Row w' g t kd n f := by
  unfold Row
  rw [hb.block g h.lt]; exact h
end Go.Proofs.YtdajmekliodmcaaGreatDoor.S7
/- Numbers of four words as plain arithmetic: sums, differences, products word by word, and what is left modulo 2^255 less 19. No condition. -/
namespace Go.Proofs.YtdajmekliodmcaaGreatDoor.S7
set_option linter.unusedSimpArgs false
open Go.RowKit
set_option linter.unusedVariables false

/-- The words of a number, the lowest first. -/
def dig (N : Nat) : Nat → Nat
  | 0 => N % 18446744073709551616
  | 1 => N / 18446744073709551616 % 18446744073709551616
  | 2 => N / 340282366920938463463374607431768211456 % 18446744073709551616
  | 3 => N / 6277101735386680763835789423207666416102355444464034512896 % 18446744073709551616
  | _ => 0
/-- The number of words. -/
def valN (f : Nat → Nat) : Nat := f 0 + f 1 * 18446744073709551616 + f 2 * 340282366920938463463374607431768211456 + f 3 * 6277101735386680763835789423207666416102355444464034512896
theorem dig_0 (N : Nat) : dig N 0 = N % 18446744073709551616 := rfl
theorem dig_1 (N : Nat) : dig N 1 = N / 18446744073709551616 % 18446744073709551616 := rfl
theorem dig_2 (N : Nat) : dig N 2 = N / 340282366920938463463374607431768211456 % 18446744073709551616 := rfl
theorem dig_3 (N : Nat) : dig N 3 = N / 6277101735386680763835789423207666416102355444464034512896 % 18446744073709551616 := rfl
theorem dig_lt (N : Nat) (j : Nat) : dig N j < 18446744073709551616 := by
  unfold dig
  split <;> first | exact Nat.mod_lt _ (by decide) | decide
theorem val_dig (N : Nat) (h : N < 115792089237316195423570985008687907853269984665640564039457584007913129639936) : valN (dig N) = N := by
  unfold valN
  rw [dig_0, dig_1, dig_2, dig_3]
  omega
theorem dig_val (f : Nat → Nat) (h : ∀ j, f j < 18446744073709551616) (j : Nat) (hj : j < 4) : dig (valN f) j = f j := by
  have h0 := h 0
  have h1 := h 1
  have h2 := h 2
  have h3 := h 3
  unfold valN
  generalize e0 : f 0 = a at *
  generalize e1 : f 1 = b at *
  generalize e2 : f 2 = c at *
  generalize e3 : f 3 = d at *
  rcases (show j = 0 ∨ j = 1 ∨ j = 2 ∨ j = 3 by omega) with rfl | rfl | rfl | rfl
  · rw [dig_0]; omega
  · rw [dig_1]; omega
  · rw [dig_2]; omega
  · rw [dig_3]; omega
/-- A number in memory. -/
def num (N : Nat) : Array Value := (rowOf .u64 4 (dig N)).toArray
theorem num_val (f : Nat → Nat) (h : ∀ j, f j < 18446744073709551616) : num (valN f) = (rowOf .u64 4 f).toArray := by
  unfold num
  rw [rowOf_ext (fun j hj => dig_val f h j hj)]

theorem upd_ne (f : Nat → Nat) (k v j : Nat) (h : j ≠ k) : upd f k v j = f j := by unfold upd; rw [if_neg h]
theorem fin4 : List.finRange 4 = [0, 1, 2, 3] := by decide
/-- One step of a difference. -/
def miS (f : Nat → Nat) (s : (Nat → Nat) × Nat) (x : Nat) : (Nat → Nat) × Nat :=
  (upd s.1 x ((s.1 x + 18446744073709551616 - f x - s.2) % 18446744073709551616), if s.1 x < f x + s.2 then 1 else 0)
def miSt (f : Nat → Nat) (a : Nat → Nat) (pre : List (Fin 4)) : (Nat → Nat) × Nat := pre.foldl (fun s x => miS f s x.1) (a, 0)
theorem miS_ok (f : Nat → Nat) (s : (Nat → Nat) × Nat) (x : Nat) (h1 : ∀ j, s.1 j < 18446744073709551616) : (∀ j, (miS f s x).1 j < 18446744073709551616) ∧ (miS f s x).2 ≤ 1 := by
  refine ⟨fun j => ?_, ?_⟩
  · unfold miS upd
    show (if j = x then _ else _) < _
    split
    · exact Nat.mod_lt _ (by decide)
    · exact h1 j
  · show (if s.1 x < f x + s.2 then 1 else 0) ≤ 1
    split <;> decide
theorem miSt_ok (f a : Nat → Nat) (ha : ∀ j, a j < 18446744073709551616) : ∀ pre, (∀ j, (miSt f a pre).1 j < 18446744073709551616) ∧ (miSt f a pre).2 ≤ 1 := by
  have key : ∀ (pre : List (Fin 4)) (s : (Nat → Nat) × Nat), (∀ j, s.1 j < 18446744073709551616) → s.2 ≤ 1 →
      (∀ j, (pre.foldl (fun s x => miS f s x.1) s).1 j < 18446744073709551616) ∧ (pre.foldl (fun s x => miS f s x.1) s).2 ≤ 1 := by
    intro pre
    induction pre with
    | nil => exact fun s h1 h2 => ⟨h1, h2⟩
    | cons x pre ih =>
      intro s h1 h2
      have h := miS_ok f s x.1 h1
      exact ih _ h.1 h.2
  exact fun pre => key pre (a, 0) ha (show 0 ≤ 1 by decide)
/-- All steps of a difference. -/
theorem miSt_all (a b : Nat) (ha : a < 115792089237316195423570985008687907853269984665640564039457584007913129639936) (hb : b < 115792089237316195423570985008687907853269984665640564039457584007913129639936) :
    (rowOf .u64 4 (miSt (dig b) (dig a) (List.finRange 4)).1).toArray = num ((a + 115792089237316195423570985008687907853269984665640564039457584007913129639936 - b) % 115792089237316195423570985008687907853269984665640564039457584007913129639936) ∧
    (miSt (dig b) (dig a) (List.finRange 4)).2 = if a < b then 1 else 0 := by
  have hok := miSt_ok (dig b) (dig a) (dig_lt a) (List.finRange 4)
  rw [← num_val _ hok.1]
  have hv := val_dig b hb
  have hav := val_dig a ha
  have l0 := dig_lt b 0
  have l1 := dig_lt b 1
  have l2 := dig_lt b 2
  have l3 := dig_lt b 3
  have m0 := dig_lt a 0
  have m1 := dig_lt a 1
  have m2 := dig_lt a 2
  have m3 := dig_lt a 3
  rw [fin4]
  have e : miSt (dig b) (dig a) [0, 1, 2, 3] = miS (dig b) (miS (dig b) (miS (dig b) (miS (dig b) (dig a, 0) 0) 1) 2) 3 := rfl
  rw [e]
  clear e hok
  unfold valN at hav hv
  generalize dig a = x at *
  generalize dig b = y at *
  have hc : ∀ u v c : Nat, u < 18446744073709551616 → v < 18446744073709551616 → c ≤ 1 → ∃ d c2 : Nat, d = (u + 18446744073709551616 - v - c) % 18446744073709551616 ∧ c2 = (if u < v + c then 1 else 0) ∧ u + c2 * 18446744073709551616 = v + c + d ∧ d < 18446744073709551616 ∧ c2 ≤ 1 := by
    intro u v c h1 h2 h3
    refine ⟨_, _, rfl, rfl, ?_, Nat.mod_lt _ (by decide), ?_⟩
    · split <;> omega
    · split <;> decide
  obtain ⟨d0, c1, hd0, hc1, q0, r0, s0⟩ := hc (x 0) (y 0) 0 m0 l0 (by decide)
  obtain ⟨d1, c2, hd1, hc2, q1, r1, s1⟩ := hc (x 1) (y 1) c1 m1 l1 s0
  obtain ⟨d2, c3, hd2, hc3, q2, r2, s2⟩ := hc (x 2) (y 2) c2 m2 l2 s1
  obtain ⟨d3, c4, hd3, hc4, q3, r3, s3⟩ := hc (x 3) (y 3) c3 m3 l3 s2
  have e1 : miS y (x, 0) 0 = (upd x 0 d0, c1) := by rw [hd0, hc1]; rfl
  have e2 : miS y (upd x 0 d0, c1) 1 = (upd (upd x 0 d0) 1 d1, c2) := by rw [hd1, hc2]; rfl
  have e3 : miS y (upd (upd x 0 d0) 1 d1, c2) 2 = (upd (upd (upd x 0 d0) 1 d1) 2 d2, c3) := by rw [hd2, hc3]; rfl
  have e4 : miS y (upd (upd (upd x 0 d0) 1 d1) 2 d2, c3) 3 = (upd (upd (upd (upd x 0 d0) 1 d1) 2 d2) 3 d3, c4) := by rw [hd3, hc4]; rfl
  rw [e1, e2, e3, e4]
  have e5 : valN (upd (upd (upd (upd x 0 d0) 1 d1) 2 d2) 3 d3) = d0 + d1 * 18446744073709551616 + d2 * 340282366920938463463374607431768211456 + d3 * 6277101735386680763835789423207666416102355444464034512896 := rfl
  rw [e5]
  show num _ = _ ∧ c4 = _
  clear e1 e2 e3 e4 e5 hc hd0 hd1 hd2 hd3 hc1 hc2 hc3 hc4
  generalize x 0 = x0 at *
  generalize x 1 = x1 at *
  generalize x 2 = x2 at *
  generalize x 3 = x3 at *
  generalize y 0 = y0 at *
  generalize y 1 = y1 at *
  generalize y 2 = y2 at *
  generalize y 3 = y3 at *
  have hT : a + c4 * 115792089237316195423570985008687907853269984665640564039457584007913129639936 = b + (d0 + d1 * 18446744073709551616 + d2 * 340282366920938463463374607431768211456 + d3 * 6277101735386680763835789423207666416102355444464034512896) := by omega
  have hD : d0 + d1 * 18446744073709551616 + d2 * 340282366920938463463374607431768211456 + d3 * 6277101735386680763835789423207666416102355444464034512896 < 115792089237316195423570985008687907853269984665640564039457584007913129639936 := by omega
  generalize d0 + d1 * 18446744073709551616 + d2 * 340282366920938463463374607431768211456 + d3 * 6277101735386680763835789423207666416102355444464034512896 = D at *
  clear hav hv q0 q1 q2 q3
  refine ⟨congrArg num ?_, ?_⟩
  · omega
  · split <;> omega
end Go.Proofs.YtdajmekliodmcaaGreatDoor.S7
/- What a range over a function wants: laws on operations inside a round, and what the iterator of package sha hands its rounds: the whole blocks of a text, in order. No condition. -/
namespace Go.Proofs.YtdajmekliodmcaaGreatDoor.S7
set_option linter.unusedSimpArgs false
open Go.RowKit Go.Shelf
set_option linter.unusedVariables false
attribute [local go_sem] Oper.semAt_some

section
variable {F : Fence} {n : Nat} {P : Program} {ops : Array Oper} {Q : Exit → Act → World → Prop} {a : Act} {w w2 : World} {rest : List Oper} {o : Oper}
theorem wpListIn_run (hgd : o.guard = none) (hab : o.about P w a.eval = none) (hsem : o.semAt F.round a.eval = execOp a.eval o) (v : Value)
    (hrun : (execOp a.eval o).run P w = .ok (.value v) w2) (h : wpListIn F n P ops Q rest (a.put o.dst v) w2) : wpListIn F n P ops Q (o :: rest) a w :=
  wpListIn_plain hgd fun K hK => ⟨fun f hf => (by rw [hab] at hf; cases hf), by rw [hsem, hrun]; exact hK _ _ h⟩
theorem wpListIn_run0 (hgd : o.guard = none) (hab : o.about P w a.eval = none) (hsem : o.semAt F.round a.eval = execOp a.eval o)
    (hrun : (execOp a.eval o).run P w = .ok .skip w2) (h : wpListIn F n P ops Q rest (a.put o.dst undef) w2) : wpListIn F n P ops Q (o :: rest) a w :=
  wpListIn_plain hgd fun K hK => ⟨fun f hf => (by rw [hab] at hf; cases hf), by rw [hsem, hrun]; exact hK _ _ h⟩

variable {md : Region.Mode} {fuel : Nat} {listed : Array Bool} {w3 : World} {i j : Nat} {rs : List Nat}
theorem opIn_run {K : Act → World → Prop} (hnc : ∀ c, o.op ≠ .call c) (hnd : ∀ c, o.op ≠ .defer c) (hg : o.guard = none) (v : Value) (hrun : (execOp a.eval o).run P w = .ok (.value v) w2) (h : K (a.put o.dst v) w2) :
    Oper.wpIn F n P o a w K Q := by
  have hab : o.about P w a.eval = none := by
    unfold Oper.about
    cases ho : o.op <;> first | rfl | exact absurd ho (hnc _)
  have hsem : o.semAt F.round a.eval = execOp a.eval o := by
    cases hr : F.round with
    | none => exact Oper.semAt_none _ _
    | some l => exact Oper.semAt_some l _ _ hnd
  exact ⟨fun f hf => (by rw [hab] at hf; cases hf), by rw [hsem, hrun]; exact h⟩
theorem AllReadyIn.op (d : Option Tmp) (opr : Op) (ho : (ops[i]?).map (fun o => (o.dst, o.op, o.guard)) = some (d, opr, none)) (hnc : ∀ c, opr ≠ .call c) (hnd : ∀ c, opr ≠ .defer c) (v : Value)
    (hrun : ∀ o : Oper, o.op = opr → (execOp a.eval o).run P w = .ok (.value v) w2) (h : wpAnyIn F n P md ops Q fuel (listed.setIfInBounds i true) (a.put d v) w2)
    (hs : AllReadyIn F n P md ops Q fuel listed a w rs) : AllReadyIn F n P md ops Q fuel listed a w (i :: rs) := by
  cases hq : ops[i]? with
  | none => simp [hq] at ho
  | some o =>
    simp [hq] at ho
    obtain ⟨rfl, rfl, hg⟩ := ho
    exact AllReadyIn.cons hq (fun K' hK => by rw [if_pos (by simp [Region.wanted, hg])]; exact opIn_run hnc hnd hg v (hrun o rfl) (hK _ _ h)) hs
theorem AllReadyIn.yield (d : Option Tmp) (f : Operand) (args : Array Operand) (tys : Array TypeId) (ho : (ops[i]?).map (fun o => (o.dst, o.op, o.guard)) = some (d, .call { callee := .value f, args := args, argTypes := tys }, none))
    (l : Nat) (hf : a.eval f = .func (.yield l) #[] #[]) (avs : Array Value) (has : args.map a.eval = avs) (R : Ending → World → Prop) (hy : YieldAt F (n - 1) P l avs w R) (hn : 1 ≤ n)
    (hK : ∀ v w', R (.returned v) w' → wpAnyIn F n P md ops Q fuel (listed.setIfInBounds i true) (a.put d v) w') (hnp : ∀ c w', ¬ R (.panicked c) w') (hno : ∀ w', ¬ R .outgrown w')
    (hs : AllReadyIn F n P md ops Q fuel listed a w rs) : AllReadyIn F n P md ops Q fuel listed a w (i :: rs) := by
  cases hq : ops[i]? with
  | none => simp [hq] at ho
  | some o =>
    simp [hq] at ho
    obtain ⟨rfl, hop, hg⟩ := ho
    refine AllReadyIn.cons hq (fun K' hK' => ?_) hs
    rw [if_pos (by simp [Region.wanted, hg])]
    obtain ⟨fn, tmps, assign, body, hrun, hR⟩ := hy
    have hsem : o.semAt F.round a.eval = execOp a.eval o := by
      cases hr : F.round with
      | none => exact Oper.semAt_none _ _
      | some l => exact Oper.semAt_some l _ _ (fun c => by rw [hop]; exact fun e => by cases e)
    have hres : (resolve a.eval { callee := .value f, args := args, argTypes := tys } o.type).run P w = .ok { target := .fn (.yield l) #[], args := avs } w := by
      simp [resolve, hf, has, Deferred.ofValue]
    refine ⟨fun f' hf' => ?_, ?_⟩
    · unfold Oper.about at hf'
      simp only [hop, hres] at hf'
      simp [Target.leads] at hf'
    · rw [hsem]
      have hx : (execOp a.eval o).run P w = .ok (.round l fn tmps assign body) w := by
        unfold execOp
        simp only [hop, Sem.run_bind, hres, Result.andThen_ok, invoke]
        exact hrun
      rw [hx, Oper.uponIn_round]
      refine ⟨fun _ => hn, hR.mono ?_⟩
      intro e w' hr
      cases e with
      | returned v => exact hK' _ _ (hK v w' hr)
      | panicked c => exact (hnp c w' hr).elim
      | outgrown => exact (hno w' hr).elim
end

structure Fr (S : Nat → Prop) (w w' : World) : Prop where
  os : w'.os = w.os
  tape : w'.tape = w.tape
  output : w'.output = w.output
  size : w.heap.size ≤ w'.heap.size
  block : ∀ k, k < w.heap.size → ¬ S k → w'.heap[k]? = w.heap[k]?

theorem Fr.refl (S : Nat → Prop) (w : World) : Fr S w w := ⟨rfl, rfl, rfl, Nat.le_refl _, fun _ _ _ => rfl⟩
theorem Fr.trans {S : Nat → Prop} {a b c : World} (h : Fr S a b) (k : Fr S b c) : Fr S a c :=
  ⟨k.os.trans h.os, k.tape.trans h.tape, k.output.trans h.output, Nat.le_trans h.size k.size, fun i hi hS => (k.block i (Nat.lt_of_lt_of_le hi h.size) hS).trans (h.block i hi hS)⟩
theorem Fr.mono {S T : Nat → Prop} {a b : World} (h : Fr S a b) (hST : ∀ k, k < a.heap.size → S k → T k) : Fr T a b := ⟨h.os, h.tape, h.output, h.size, fun k hk hT => h.block k hk (fun hS => hT (hST k hk hS))⟩
theorem Fr.drew {S : Nat → Prop} {a w : World} (h : Fr S a w) : Fr S a w.drew := ⟨h.os, h.tape, h.output, h.size, h.block⟩
theorem Fr.alloc {S : Nat → Prop} {a w : World} (h : Fr S a w) (o : Obj) : Fr S a (w.alloc o) :=
  h.trans ⟨rfl, rfl, rfl, by simp, fun k hk _ => Below.heap_alloc _ _ _ hk⟩
theorem Fr.setCell {S : Nat → Prop} {a w : World} (h : Fr S a w) {p : Addr} (hp : S p.block) (u : Value) : Fr S a (w.setCell p u) :=
  h.trans ⟨rfl, rfl, rfl, by simp [World.setCell], fun k _ hS => Below.heap_setCell _ _ _ _ (fun e => hS (e ▸ hp))⟩
theorem Fr.setRow {S : Nat → Prop} {a w : World} (h : Fr S a w) {g : Nat} (hp : S g) (cs : Array Value) : Fr S a (w.setRow g cs) :=
  h.trans ⟨rfl, rfl, rfl, by simp, fun k _ hS => setRow_other _ _ _ _ (fun e => hS (e ▸ hp))⟩
theorem Fr.below {S : Nat → Prop} {a b : World} (h : Fr S a b) {B : Nat} (hB : B ≤ a.heap.size) (hS : ∀ k, k < B → ¬ S k) : Below B a b :=
  ⟨h.os, h.tape, h.output, h.size, fun k hk => h.block k (by omega) (hS k hk)⟩


section
variable {F : Fence} {n : Nat} {P : Program} {ops : Array Oper} {Q : Exit → Act → World → Prop} {a : Act} {w w2 : World} {rest : List Oper} {o : Oper}
end
end Go.Proofs.YtdajmekliodmcaaGreatDoor.S7
/- What several texts share: a result that is a cell, cells beside one that is stored. -/
namespace Go.Proofs.YtdajmekliodmcaaGreatDoor.S7
set_option linter.unusedSimpArgs false
open Go.RowKit
set_option linter.unusedVariables false
theorem results_cell {fn : Func} {a : Tmp} {t : TypeId} (h : fn.results = #[.cell a t]) (tmps : Array Value) (P : Program) (w : World) (ad : Addr) (ha : tmps.getD a undef = .pointer (some ad)) (v : Value)
    (hl : (loadVar t ad).run P w = .ok v w) : (results fn tmps).run P w = .ok v w := by
  have ha2 : tmps[a]?.getD undef = .pointer (some ad) := by rw [← Array.getD_eq_getD_getElem?]; exact ha
  unfold results
  rw [h]
  simp [Array.mapM_eq_mapM_toList, ha2, asAddr, hl]
end Go.Proofs.YtdajmekliodmcaaGreatDoor.S7
/- Words of 64 bits: math/bits.Add64, Sub64 as package scalar calls them. No condition but that the numbers have 64 bits. -/
namespace Go.Proofs.YtdajmekliodmcaaGreatDoor.S7
set_option linter.unusedSimpArgs false
open Go.RowKit
set_option linter.unusedVariables false
theorem add64_run (x y c : Nat) (hc : c ≤ 1) (W : World) : (callFunc 124 #[.int .u64 x, .int .u64 y, .int .u64 c]).run Tryz.prog W =
    .ok (.value (.tuple #[.int .u64 (((x + y + c) % 18446744073709551616 : Nat) : Int), .int .u64 (((x + y + c) / 18446744073709551616 : Nat) : Int)])) W := by
  rw [run_callFunc_extern (e := add64Entry) Tryz.func124 (by kernel_rfl) (by kernel_rfl) (by kernel_rfl) (by kernel_rfl), run_add64 x y c (by omega) (by omega) (by omega) (by omega)]
  simp only [Result.andThen]
  congr 1
theorem sub64_run (x y c : Nat) (hc : c ≤ 1) (W : World) : (callFunc 125 #[.int .u64 x, .int .u64 y, .int .u64 c]).run Tryz.prog W =
    .ok (.value (.tuple #[.int .u64 (((x + 18446744073709551616 - y - c) % 18446744073709551616 : Nat) : Int), .int .u64 ((if x < y + c then 1 else 0 : Nat) : Int)])) W := by
  rw [run_callFunc_extern (e := sub64Entry) Tryz.func125 (by kernel_rfl) (by kernel_rfl) (by kernel_rfl) (by kernel_rfl), run_sub64 x y c hc]
  rfl
end Go.Proofs.YtdajmekliodmcaaGreatDoor.S7
