/- Pieces of walks: a whole aggregate in memory, rows of numbers and of bytes, regions that draw their order. No condition. -/
import Derived.Test.YtkkdcecnegdipaaDoorRows
import Derived.WalkKit
import Derived.WalkSpells
import Derived.WalkLawsBesides
import Derived.Handy
import Derived.Lib.Hide
import Derived.RegionTactic
import Derived.Maps.AppendAt
import Derived.Outline
import Derived.BigQuiet
import Derived.Deep.QuietTactic
import Derived.OneCell
import Derived.Deep.RegionWith
import Derived.Deep.RegionHeld3
import Derived.Deep.DeepCutAuto
import Derived.Deep.CutBlock
import Derived.OrdersHeld
import Derived.Still
import Derived.StillTail
namespace Go.Proofs.YtkkdcecnegdipaaDoor.R
open Go.RowKit
set_option linter.unusedVariables false
set_option linter.unusedSimpArgs false

section
variable {P : Program}

theorem addr_add (g o j : Nat) : (⟨g, o, none⟩ : Addr).add j = ⟨g, o + j, none⟩ := by unfold Addr.add; split <;> simp_all

/-- A whole aggregate read out of the middle of a block. -/
theorem run_loadVar_seg (w : World) (ty : TypeId) (g off : Nat) (cs : List Value) (d : TypeDesc) (hc : ∀ j v, cs[j]? = some v → w.cell? ⟨g, off + j, none⟩ = some v)
    (hu : P.underlying ty = some d) (hd : (match d with | .struct _ | .array _ _ => true | _ => false) = true) (hi : (P.info? ty).map (·.size) = some cs.length) :
    (loadVar ty ⟨g, off, none⟩).run P w = .ok (.agg cs.toArray) w := by
  have hl : (loadCells ⟨g, off, none⟩ cs.length).run P w = .ok cs.toArray w :=
    run_loadCells_list (P := P) w ⟨g, off, none⟩ cs (fun j v hv => by rw [addr_add]; exact hc j v hv)
  cases hq : P.info? ty with
  | none => simp [hq] at hi
  | some i =>
    have hs : i.size = cs.length := by simpa [hq] using hi
    have hagg : (isAgg ty).run P w = .ok true w := by
      unfold isAgg
      rw [Sem.run_bind, run_underlying hu w]
      cases d <;> simp_all
    simp [loadVar, Sem.run_bind, hagg, sizeOf, typeInfo, hq, hs, hl]

theorem wp_load_seg {o : Oper} {a : Act} {w : World} {K : Act → World → Prop} {Q : Exit → Act → World → Prop} (ty : TypeId) (x : Operand) (ho : o.op = .load ty x)
    (g off : Nat) (hx : a.eval x = .pointer (some ⟨g, off, none⟩)) (cs : List Value) (d : TypeDesc) (hc : ∀ j v, cs[j]? = some v → w.cell? ⟨g, off + j, none⟩ = some v)
    (hu : P.underlying ty = some d) (hd : (match d with | .struct _ | .array _ _ => true | _ => false) = true) (hi : (P.info? ty).map (·.size) = some cs.length)
    (h : K (a.put o.dst (.agg cs.toArray)) w) : o.wp P a w K Q := by
  unfold Oper.wp execOp
  simp only [ho, hx, Instr.loadAt, Instr.sureAddr, Sem.run_bind, Sem.run_pure, Result.andThen_ok, run_loadVar_seg w ty g off cs d hc hu hd hi]
  exact h

theorem wpList_load_seg {ops : Array Oper} {rest : List Oper} {o : Oper} {a : Act} {w : World} {Q : Exit → Act → World → Prop} (hgd : o.guard = none) (ty : TypeId) (x : Operand) (ho : o.op = .load ty x)
    (g off : Nat) (hx : a.eval x = .pointer (some ⟨g, off, none⟩)) (cs : List Value) (d : TypeDesc) (hc : ∀ j v, cs[j]? = some v → w.cell? ⟨g, off + j, none⟩ = some v)
    (hu : P.underlying ty = some d) (hd : (match d with | .struct _ | .array _ _ => true | _ => false) = true) (hi : (P.info? ty).map (·.size) = some cs.length)
    (h : wpList P ops Q rest (a.put o.dst (.agg cs.toArray)) w) : wpList P ops Q (o :: rest) a w :=
  wpList_plain hgd fun _ hK => wp_load_seg ty x ho g off hx cs d hc hu hd hi (hK _ _ h)

/-- What a row's cells are behind a store of cs at off. -/
def splice (cur : Array Value) (off : Nat) (cs : List Value) : Array Value := (cur.toList.take off ++ cs ++ cur.toList.drop (off + cs.length)).toArray

theorem splice_get (cur : Array Value) (off : Nat) (cs : List Value) (hfit : off + cs.length ≤ cur.size) (k : Nat) :
    (splice cur off cs)[k]? = if off ≤ k ∧ k < off + cs.length then cs[k - off]? else cur[k]? := by
  have h1 : min off cur.size = off := by omega
  unfold splice
  simp only [List.getElem?_toArray, List.getElem?_append, List.length_append, List.length_take, Array.length_toList, h1, List.getElem?_take, List.getElem?_drop]
  split
  · rename_i h
    split
    · rename_i h2
      rw [if_neg (by omega)]
      simp
    · rename_i h2
      rw [if_pos (by omega)]
  · rename_i h
    rw [if_neg (by omega)]
    simp
    congr 1
    omega

theorem splice_size (cur : Array Value) (off : Nat) (cs : List Value) (hfit : off + cs.length ≤ cur.size) : (splice cur off cs).size = cur.size := by
  unfold splice
  simp
  omega

theorem run_storeVar_seg (w : World) (ty : TypeId) (g off : Nat) (cur : Array Value) (t : TypeId) (cs : List Value) (hg : w.heap[g]? = some (.cells cur t (0, 0))) (hfit : off + cs.length ≤ cur.size)
    (h1 : ∀ v ∈ cs, v.oneCell' = true) (hi : (P.info? ty).map (·.size) = some cs.length) :
    (storeVar ty ⟨g, off, none⟩ (.agg cs.toArray)).run P w = .ok () (w.setRow g (splice cur off cs)) := by
  have hst := run_storeCells_at P g off t cs 0 cur w hg (by simpa using hfit) h1
  cases hq : P.info? ty with
  | none => simp [hq] at hi
  | some i =>
    have hs : i.size = cs.length := by simpa [hq] using hi
    simp only [Nat.add_zero] at hst
    simp [storeVar, sizeOf, typeInfo, hq, hs, Value.cells, hst, splice]

theorem wp_store_seg {o : Oper} {a : Act} {w : World} {K : Act → World → Prop} {Q : Exit → Act → World → Prop} (ty : TypeId) (x y : Operand) (ho : o.op = .store ty x y)
    (g off : Nat) (hx : a.eval x = .pointer (some ⟨g, off, none⟩)) (cs : List Value) (hy : a.eval y = .agg cs.toArray) (cur : Array Value) (t : TypeId) (hg : w.heap[g]? = some (.cells cur t (0, 0))) (hfit : off + cs.length ≤ cur.size)
    (h1 : ∀ v ∈ cs, v.oneCell' = true) (hi : (P.info? ty).map (·.size) = some cs.length)
    (h : K (a.put o.dst undef) (w.setRow g (splice cur off cs))) : o.wp P a w K Q := by
  unfold Oper.wp execOp
  simp only [ho, hx, hy, Instr.storeAt, Instr.sureAddr, Sem.run_bind, Sem.run_pure, Result.andThen_ok, run_storeVar_seg w ty g off cur t cs hg hfit h1 hi]
  exact h

theorem wpList_store_seg {ops : Array Oper} {rest : List Oper} {o : Oper} {a : Act} {w : World} {Q : Exit → Act → World → Prop} (hgd : o.guard = none) (ty : TypeId) (x y : Operand) (ho : o.op = .store ty x y)
    (g off : Nat) (hx : a.eval x = .pointer (some ⟨g, off, none⟩)) (cs : List Value) (hy : a.eval y = .agg cs.toArray) (cur : Array Value) (t : TypeId) (hg : w.heap[g]? = some (.cells cur t (0, 0))) (hfit : off + cs.length ≤ cur.size)
    (h1 : ∀ v ∈ cs, v.oneCell' = true) (hi : (P.info? ty).map (·.size) = some cs.length)
    (h : wpList P ops Q rest (a.put o.dst undef) (w.setRow g (splice cur off cs))) : wpList P ops Q (o :: rest) a w :=
  wpList_plain hgd fun _ hK => wp_store_seg ty x y ho g off hx cs hy cur t hg hfit h1 hi (hK _ _ h)

theorem wpList_convert_bytes {ops : Array Oper} {rest : List Oper} {o : Oper} {a : Act} {w : World} {Q : Exit → Act → World → Prop} (hgd : o.guard = none) (src dst e : TypeId) (x : Operand) (ho : o.op = .convert src dst x)
    (ad : Addr) (len cap : Nat) (hx : a.eval x = .slice (some ad) len cap) (l : List UInt8) (hl : l.length = len) (hs : P.underlying src = some (.slice e)) (he : P.underlying e = some (.int .u8)) (hd : P.underlying dst = some .string)
    (hc : ∀ j (hj : j < l.length), w.cell? (ad.add j) = some (.int .u8 (l[j].toNat : Int)))
    (h : wpList P ops Q rest (a.put o.dst (.string ⟨l.toArray⟩)) w) : wpList P ops Q (o :: rest) a w := by
  subst hl
  refine wpList_plain hgd fun K hK => ?_
  unfold Oper.wp execOp
  simp only [ho, hx, Sem.run_bind, run_convert_bytes_back w src dst e ad cap l hs he hd hc, Result.andThen_ok]
  exact hK _ _ h


/-- Whatever one operation comes to, told beforehand. -/
theorem wpList_run {ops : Array Oper} {rest : List Oper} {o : Oper} {a : Act} {w w2 : World} {Q : Exit → Act → World → Prop} (hgd : o.guard = none) (v : Value)
    (hrun : (execOp a.eval o).run P w = .ok (.value v) w2) (h : wpList P ops Q rest (a.put o.dst v) w2) : wpList P ops Q (o :: rest) a w :=
  wpList_plain hgd fun K hK => by unfold Oper.wp; rw [hrun]; exact hK _ _ h

theorem wpList_run0 {ops : Array Oper} {rest : List Oper} {o : Oper} {a : Act} {w w2 : World} {Q : Exit → Act → World → Prop} (hgd : o.guard = none)
    (hrun : (execOp a.eval o).run P w = .ok .skip w2) (h : wpList P ops Q rest (a.put o.dst undef) w2) : wpList P ops Q (o :: rest) a w :=
  wpList_plain hgd fun K hK => by unfold Oper.wp; rw [hrun]; exact hK _ _ h

theorem exec_build1 {ρ : Operand → Value} {o : Oper} (w : World) (t : TypeId) (k : Nat) (x : Operand) (ho : o.op = .build t #[(k, x)]) (u : Value) (hx : ρ x = u) (v : Value)
    (hrun : (Instr.build t #[(k, u)]).run P w = .ok v w) : (execOp ρ o).run P w = .ok (.value v) w := by
  subst hx
  unfold execOp
  simp [ho, hrun]

theorem exec_load_seg {ρ : Operand → Value} {o : Oper} (w : World) (ty : TypeId) (x : Operand) (ho : o.op = .load ty x)
    (g off : Nat) (hx : ρ x = .pointer (some ⟨g, off, none⟩)) (cs : List Value) (d : TypeDesc) (hc : ∀ j v, cs[j]? = some v → w.cell? ⟨g, off + j, none⟩ = some v)
    (hu : P.underlying ty = some d) (hd : (match d with | .struct _ | .array _ _ => true | _ => false) = true) (hi : (P.info? ty).map (·.size) = some cs.length) :
    (execOp ρ o).run P w = .ok (.value (.agg cs.toArray)) w := by
  unfold execOp
  simp only [ho, hx, Instr.loadAt, Instr.sureAddr, Sem.run_bind, Sem.run_pure, Result.andThen_ok, run_loadVar_seg w ty g off cs d hc hu hd hi]

theorem exec_store_seg {ρ : Operand → Value} {o : Oper} (w : World) (ty : TypeId) (x y : Operand) (ho : o.op = .store ty x y)
    (g off : Nat) (hx : ρ x = .pointer (some ⟨g, off, none⟩)) (cs : List Value) (hy : ρ y = .agg cs.toArray) (cur : Array Value) (t : TypeId) (hg : w.heap[g]? = some (.cells cur t (0, 0))) (hfit : off + cs.length ≤ cur.size)
    (h1 : ∀ v ∈ cs, v.oneCell' = true) (hi : (P.info? ty).map (·.size) = some cs.length) :
    (execOp ρ o).run P w = .ok .skip (w.setRow g (splice cur off cs)) := by
  unfold execOp
  simp only [ho, hx, hy, Instr.storeAt, Instr.sureAddr, Sem.run_bind, Sem.run_pure, Result.andThen_ok, run_storeVar_seg w ty g off cur t cs hg hfit h1 hi]

/-- A new variable of an aggregate's type. -/
theorem exec_alloc_agg {ρ : Operand → Value} {o : Oper} (w : World) (ty : TypeId) (ho : o.op = .alloc ty) (cs : Array Value) (hz : (zeroValue ty).run P w = .ok (.agg cs) w) :
    (execOp ρ o).run P w = .ok (.value (.pointer (some ⟨w.heap.size, 0, none⟩))) (w.alloc (.cells cs ty)) := by
  unfold execOp
  simp only [ho, Instr.alloc, Sem.run_bind, hz, Result.andThen_ok, newVar, newRow, Value.cells, run_newObj_alloc, Sem.run_pure]

theorem setRow_alloc (w : World) (c c2 : Array Value) (t : TypeId) (fr : Nat × Nat) (k : Nat) (hk : k = w.heap.size) : (w.alloc (.cells c t fr)).setRow k c2 = w.alloc (.cells c2 t fr) := by
  subst hk
  have e : (w.heap.push (Obj.cells c t fr)).modify w.heap.size (fun | .cells _ elem f => .cells c2 elem f | o => o) = w.heap.push (Obj.cells c2 t fr) := by
    apply Array.ext
    · rw [Array.size_modify, Array.size_push, Array.size_push]
    · intro i h1 h2
      rw [Array.getElem_modify]
      by_cases e : w.heap.size = i
      · subst e; rw [if_pos rfl, Array.getElem_push_eq, Array.getElem_push_eq]
      · have h3 : i < w.heap.size := by rw [Array.size_push] at h2; omega
        rw [if_neg e, Array.getElem_push_lt h3, Array.getElem_push_lt h3]
  unfold World.setRow World.alloc
  exact congrArg (fun h : Array Obj => ({ w with heap := h } : World)) e

/-- 'copy(dst, s)', s a string that fits. -/
theorem run_copy_str (w : World) (dT sT ty elem : TypeId) (g o dLen dCap : Nat) (s : ByteArray) (cur : Array Value) (t : TypeId)
    (hu : P.underlying dT = some (.slice elem)) (hs : (P.info? elem).map (·.size) = some 1) (hg : w.heap[g]? = some (.cells cur t (0, 0))) (hle : s.size ≤ dLen) (hfit : o + s.size ≤ cur.size) :
    (Builtin.copy_ #[dT, sT] ty #[.slice (some ⟨g, o, none⟩) dLen dCap, .string s]).run P w = .ok (goInt s.size) (w.setRow g (splice cur o (s.data.toList.map fun b => .int .u8 (b.toNat : Int)))) := by
  have hsz : (s.data.toList.map fun b => Value.int .u8 (b.toNat : Int)).length = s.size := by rw [List.length_map]; rfl
  have hst := run_storeCells_at P g o t (s.data.toList.map fun b => Value.int .u8 (b.toNat : Int)) 0 cur w hg (by rw [hsz]; simpa using hfit) (by intro v hv; simp at hv; obtain ⟨b, _, rfl⟩ := hv; rfl)
  have hmin : Nat.min s.size dLen = s.size := Nat.min_eq_left hle
  cases hq : P.info? elem with
  | none => simp [hq] at hs
  | some i =>
    have htk : List.take s.size (List.map (fun b => Value.int .u8 (b.toNat : Int)) s.data.toList) = List.map (fun b => Value.int .u8 (b.toNat : Int)) s.data.toList := List.take_of_length_le (by rw [hsz]; exact Nat.le_refl _)
    simp only [Nat.add_zero] at hst
    simp [Builtin.copy_, run_underlying hu, Builtin.lenOf, Builtin.firstCells, sizeOf, typeInfo, hq, hmin, htk, hst, splice]

theorem splice_all (cur : Array Value) (cs : List Value) (h : cur.size = cs.length) : splice cur 0 cs = cs.toArray := by
  unfold splice
  simp [List.drop_eq_nil_of_le, h]

/-- A store of a whole aggregate into the variable that was just made. -/
theorem exec_store_new {ρ : Operand → Value} {o : Oper} (w : World) (ty : TypeId) (x y : Operand) (ho : o.op = .store ty x y) (c : Array Value) (t : TypeId)
    (hx : ρ x = .pointer (some ⟨w.heap.size, 0, none⟩)) (cs : List Value) (hy : ρ y = .agg cs.toArray) (hfit : c.size = cs.length)
    (h1 : ∀ v ∈ cs, v.oneCell' = true) (hi : (P.info? ty).map (·.size) = some cs.length) :
    (execOp ρ o).run P (w.alloc (.cells c t)) = .ok .skip (w.alloc (.cells cs.toArray t)) := by
  have h := exec_store_seg (P := P) (o := o) (w.alloc (.cells c t)) ty x y ho w.heap.size 0 hx cs hy c t (heap_alloc_new _ _) (by omega) h1 hi
  rw [h, setRow_alloc _ _ _ _ _ _ rfl, splice_all _ _ hfit]

theorem exec_copy_new {ρ : Operand → Value} {o : Oper} (w : World) (d x : Operand) (dT sT elem : TypeId) (ho : o.op = .call { callee := .builtin .copy, args := #[d, x], argTypes := #[dT, sT] }) (c : Array Value) (t : TypeId)
    (off dLen dCap : Nat) (s : ByteArray) (hd : ρ d = .slice (some ⟨w.heap.size, off, none⟩) dLen dCap) (hx : ρ x = .string s)
    (hu : P.underlying dT = some (.slice elem)) (hs : (P.info? elem).map (·.size) = some 1) (hle : s.size ≤ dLen) (hfit : off + s.size ≤ c.size) :
    (execOp ρ o).run P (w.alloc (.cells c t)) = .ok (.value (goInt s.size)) (w.alloc (.cells (splice c off (s.data.toList.map fun b => .int .u8 (b.toNat : Int))) t)) := by
  have h := run_copy_str (P := P) (w.alloc (.cells c t)) dT sT o.type elem w.heap.size off dLen dCap s c t hu hs (heap_alloc_new _ _) hle hfit
  rw [setRow_alloc _ _ _ _ _ _ rfl] at h
  unfold execOp
  simp [ho, resolve, invoke, builtin, hd, hx, h]

theorem AllReady.run {ops : Array Oper} {Q : Exit → Act → World → Prop} {md : Region.Mode} {fuel : Nat} {listed : Array Bool} {a : Act} {w w2 : World} {i : Nat} {o : Oper} {rs : List Nat} (ho : ops[i]? = some o) (hg : o.guard = none) (v : Value)
    (hrun : (execOp a.eval o).run P w = .ok (.value v) w2) (h : wpAny P md ops Q fuel (listed.setIfInBounds i true) (a.put o.dst v) w2)
    (hs : AllReady P md ops Q fuel listed a w rs) : AllReady P md ops Q fuel listed a w (i :: rs) :=
  AllReady.cons ho (fun K' hK => by rw [if_pos (by simp [Region.wanted, hg])]; unfold Oper.wp; rw [hrun]; exact hK _ _ h) hs

theorem AllReady.run0 {ops : Array Oper} {Q : Exit → Act → World → Prop} {md : Region.Mode} {fuel : Nat} {listed : Array Bool} {a : Act} {w w2 : World} {i : Nat} {o : Oper} {rs : List Nat} (ho : ops[i]? = some o) (hg : o.guard = none)
    (hrun : (execOp a.eval o).run P w = .ok .skip w2) (h : wpAny P md ops Q fuel (listed.setIfInBounds i true) (a.put o.dst undef) w2)
    (hs : AllReady P md ops Q fuel listed a w rs) : AllReady P md ops Q fuel listed a w (i :: rs) :=
  AllReady.cons ho (fun K' hK => by rw [if_pos (by simp [Region.wanted, hg])]; unfold Oper.wp; rw [hrun]; exact hK _ _ h) hs

theorem fill_all_aux : ∀ (l : List Value) (k : Nat) (base : Array Value), k + l.length = base.size →
    (l.zipIdx k).foldl (fun cs (x : Value × Nat) => cs.setIfInBounds (0 + x.2) x.1) base = (base.toList.take k ++ l).toArray
  | [], k, base, h => by
    have : base.toList.take k = base.toList := List.take_of_length_le (by simp at h ⊢; omega)
    simp [this]
  | v :: l, k, base, h => by
    simp only [List.zipIdx_cons, List.foldl_cons, Nat.zero_add]
    have ih := fill_all_aux l (k + 1) (base.setIfInBounds k v) (by simp at h ⊢; omega)
    simp only [Nat.zero_add] at ih
    rw [ih]
    congr 1
    have hk : k < base.size := by simp at h; omega
    rw [List.take_add_one]
    simp only [Array.toList_setIfInBounds, List.take_set, List.set_eq_of_length_le, List.getElem?_set, List.length_take, Array.length_toList]
    have h2 : min k base.size ≤ k := by omega
    rw [List.set_eq_of_length_le (by simp; omega)]
    simp [hk]

/-- 'append(l, x)' makes first a row of the one element. -/
theorem exec_buildSlice1 {ρ : Operand → Value} {o : Oper} (w : World) (t e : TypeId) (x : Operand) (ho : o.op = .buildSlice t 1 #[(0, x)]) (cs : List Value) (hx : ρ x = .agg cs.toArray)
    (hu : P.underlying t = some (.slice e)) (hi : (P.info? e).map (·.size) = some cs.length) (hl : cs.length ≤ 16777216) (z : Value) (hz : (zeroValue e).run P w = .ok z w) :
    (execOp ρ o).run P w = .ok (.value (.slice (some ⟨w.heap.size, 0, none⟩) 1 1)) (w.alloc (.cells cs.toArray e)) := by
  cases hq : P.info? e with
  | none => simp [hq] at hi
  | some i =>
    have hs : i.size = cs.length := by simpa [hq] using hi
    have hlim : ¬ (2 ^ 24 < cs.length) := by omega
    have hf : ∀ (base : Array Value), base.size = cs.length → Instr.fill (fun i => some (i * cs.length, cs.length)) base [(0, .agg cs.toArray)] = some cs.toArray := by
      intro base hb
      have h := fill_all_aux cs 0 base (by omega)
      simp only [List.take_zero, List.nil_append] at h
      simp only [Instr.fill, Value.cells, Nat.zero_mul, List.size_toArray, hb]
      simp only [ne_eq, not_true_eq_false, Nat.zero_add, Nat.lt_irrefl, gt_iff_lt, or_self, Bool.false_eq_true, decide_false, if_false]
      simp only [← Array.foldl_toList, Array.toList_zipIdx, Nat.zero_add] at h ⊢
      rw [h]
      rfl
    unfold execOp
    have hsz : (sizeOf e).run P w = .ok cs.length w := by simp [sizeOf, typeInfo, hq, hs]
    have hparts : (Array.map (fun (y : Nat × Operand) => (y.fst, ρ y.snd)) #[(0, x)]).toList = [(0, .agg cs.toArray)] := by simp [hx]
    have hlim2 : ¬ (1 * cs.length > 2 ^ 24) := by omega
    simp only [ho, Instr.buildSlice, Sem.run_bind, run_underlying hu, Result.andThen_ok, hsz, if_neg hlim2, hparts]
    by_cases h0 : 1 * cs.length = 0
    · rw [if_pos h0]
      simp only [Sem.run_bind, Sem.run_pure, Result.andThen_ok]
      rw [hf _ (by simp)]
      simp [newRow]
    · rw [if_neg h0]
      simp only [Sem.run_bind, Sem.run_pure, Result.andThen_ok, hz]
      rw [hf _ (by simp)]
      simp [newRow]

theorem exec_append_own (w : World) (base : Nat) (t e : TypeId) (i : TypeInfo) (z : Value) (size bytes : Nat) (ht : P.underlying t = some (.slice e)) (hi : P.info? e = some i) (hz : i.zero = some z)
    (hsize : i.size = size) (hby : i.bytes = bytes) (hzs : z.cells.size = size) (hsz : 0 < size)
    (v : Value) (n : Nat) (xs : List Value) (hown : w.ownsRow base e size v n xs)
    (a : Addr) (m c : Nat) (news : List Value) (hl : news.length = m * size) (hnews : ∀ j u, news[j]? = some u → w.cell? (a.add j) = some u) (h1 : ∀ u ∈ news, u.oneCell' = true)
    (h63 : n + m ≤ maxLen) (hbytes : (n + m) * bytes ≤ 140737488355328) (hbase : base ≤ w.heap.size) :
    ∃ v' w', (∀ (ρ : Operand → Value) (o : Oper) (s x : Operand), o.op = Op.call { callee := Callee.builtin Builtin.append, args := #[s, x], argTypes := #[t, t] } → ρ s = v → ρ x = .slice (some a) m c → (execOp ρ o).run P w = .ok (.value v') w') ∧
      w'.ownsRow base e size v' (n + m) (xs ++ news) ∧ w.grownBy w' v.ownBlock ∧ (v'.ownBlock = v.ownBlock ∨ v'.ownBlock = some w.heap.size) := by
  obtain ⟨v', w', hrun, h2, h3, -, h4⟩ := run_append_own_at (P := P) w base t t e i z size bytes ht hi hz hsize hby hzs hsz v n xs hown a m c news hl hnews h1 h63 hbytes hbase
  refine ⟨v', w', ?_, h2, h3, h4⟩
  intro ρ o s x ho hs hx
  have hrun2 : (Builtin.append_ #[t, t] o.type #[v, .slice (some a) m c]).run P w = .ok v' w' := hrun
  unfold execOp
  simp [ho, resolve, invoke, builtin, hs, hx, hrun2]

section
variable {ops : Array Oper} {Q : Exit → Act → World → Prop} {md : Region.Mode} {fuel : Nat} {listed : Array Bool} {a : Act} {w w2 w3 : World} {i j : Nat} {rs : List Nat}
theorem AllReady.op (d : Option Tmp) (opr : Op) (ho : (ops[i]?).map (fun o => (o.dst, o.op, o.guard)) = some (d, opr, none)) (v : Value)
    (hrun : ∀ o : Oper, o.op = opr → (execOp a.eval o).run P w = .ok (.value v) w2) (h : wpAny P md ops Q fuel (listed.setIfInBounds i true) (a.put d v) w2)
    (hs : AllReady P md ops Q fuel listed a w rs) : AllReady P md ops Q fuel listed a w (i :: rs) := by
  cases hq : ops[i]? with
  | none => simp [hq] at ho
  | some o =>
    simp [hq] at ho
    obtain ⟨rfl, rfl, hg⟩ := ho
    exact AllReady.run hq hg v (hrun o rfl) h hs
theorem AllReady.op0 (opr : Op) (ho : (ops[i]?).map (fun o => (o.dst, o.op, o.guard)) = some (none, opr, none))
    (hrun : ∀ o : Oper, o.op = opr → (execOp a.eval o).run P w = .ok .skip w2) (h : wpAny P md ops Q fuel (listed.setIfInBounds i true) a w2)
    (hs : AllReady P md ops Q fuel listed a w rs) : AllReady P md ops Q fuel listed a w (i :: rs) := by
  cases hq : ops[i]? with
  | none => simp [hq] at ho
  | some o =>
    simp [hq] at ho
    obtain ⟨hd, rfl, hg⟩ := ho
    exact AllReady.run0 hq hg (hrun o rfl) (by rw [hd]; exact h) hs
theorem any_one (i : Nat) (d : Option Tmp) (opr : Op) (hr : Region.ready md ops listed = [i]) (ho : (ops[i]?).map (fun o => (o.dst, o.op, o.guard)) = some (d, opr, none)) (v : Value)
    (hrun : ∀ o : Oper, o.op = opr → (execOp a.eval o).run P w = .ok (.value v) w2) (h : wpAny P md ops Q fuel (listed.setIfInBounds i true) (a.put d v) w2) : wpAny P md ops Q (fuel + 1) listed a w :=
  wpAny_ready hr (by simp) (AllReady.op d opr ho v hrun h AllReady.nil)
theorem any_one0 (i : Nat) (opr : Op) (hr : Region.ready md ops listed = [i]) (ho : (ops[i]?).map (fun o => (o.dst, o.op, o.guard)) = some (none, opr, none))
    (hrun : ∀ o : Oper, o.op = opr → (execOp a.eval o).run P w = .ok .skip w2) (h : wpAny P md ops Q fuel (listed.setIfInBounds i true) a w2) : wpAny P md ops Q (fuel + 1) listed a w :=
  wpAny_ready hr (by simp) (AllReady.op0 opr ho hrun h AllReady.nil)
theorem any_two (i j : Nat) (d : Option Tmp) (opr : Op) (d2 : Option Tmp) (opr2 : Op) (hr : Region.ready md ops listed = [i, j]) (ho : (ops[i]?).map (fun o => (o.dst, o.op, o.guard)) = some (d, opr, none))
    (ho2 : (ops[j]?).map (fun o => (o.dst, o.op, o.guard)) = some (d2, opr2, none)) (v v2 : Value)
    (hrun : ∀ o : Oper, o.op = opr → (execOp a.eval o).run P w = .ok (.value v) w2) (hrun2 : ∀ o : Oper, o.op = opr2 → (execOp a.eval o).run P w = .ok (.value v2) w3)
    (h : wpAny P md ops Q fuel (listed.setIfInBounds i true) (a.put d v) w2) (h2 : wpAny P md ops Q fuel (listed.setIfInBounds j true) (a.put d2 v2) w3) : wpAny P md ops Q (fuel + 1) listed a w :=
  wpAny_ready hr (by simp) (AllReady.op d opr ho v hrun h (AllReady.op d2 opr2 ho2 v2 hrun2 h2 AllReady.nil))
/-- An operation that yields in whatever world, and is free of the others, is taken first. -/
theorem any_take (i : Nat) (d : Option Tmp) (opr : Op) (v : Value) (ho : (ops[i]?).map (fun o => (o.dst, o.op, o.guard)) = some (d, opr, none)) (hs : Region.noSelect ops = true) (hf : Region.free md ops listed i = true) (hr : (Region.ready md ops listed).contains i = true)
    (hQ : ∀ c a w, Q (.panic c) (a.put d v) w → Q (.panic c) a w) (hy : ∀ (o : Oper), o.op = opr → ∀ w, (execOp a.eval o).run P w = .ok (.value v) w)
    (h : wpAny P md ops Q fuel (listed.setIfInBounds i true) (a.put d v) w) : wpAny P md ops Q (fuel + 1) listed a w := by
  cases hq : ops[i]? with
  | none => simp [hq] at ho
  | some o =>
    simp [hq] at ho
    obtain ⟨rfl, rfl, hg⟩ := ho
    exact wpAny_take hq hs hf hr hQ (Or.inl ⟨by simp [Region.wanted, hg], hy o rfl⟩) h
end

theorem exec_load_one {ρ : Operand → Value} {o : Oper} (w : World) (ty : TypeId) (x : Operand) (ho : o.op = .load ty x) (ad : Addr) (hx : ρ x = .pointer (some ad)) (v : Value) (hc : w.cell? ad = some v)
    (d : TypeDesc) (hu : P.underlying ty = some d) (hd : (match d with | .struct _ | .array _ _ => true | _ => false) = false) : (execOp ρ o).run P w = .ok (.value v) w := by
  have hagg : (isAgg ty).run P w = .ok false w := by
    unfold isAgg
    rw [Sem.run_bind, run_underlying hu w]
    cases d <;> simp_all
  unfold execOp
  simp [ho, hx, Instr.loadAt, Instr.sureAddr, loadVar, hagg, hc]

theorem exec_store_one {ρ : Operand → Value} {o : Oper} (w : World) (ty : TypeId) (x y : Operand) (ho : o.op = .store ty x y) (ad : Addr) (hx : ρ x = .pointer (some ad)) (v : Value) (hy : ρ y = v)
    (h1 : v.oneCell' = true) (h2 : v.cells = #[v]) (u : Value) (hc : w.cell? ad = some u) (hf : w.frozen? ad = false) (hi : (P.info? ty).map (·.size) = some 1) : (execOp ρ o).run P w = .ok .skip (w.setCell ad v) := by
  cases hq : P.info? ty with
  | none => simp [hq] at hi
  | some i =>
    have hs : i.size = 1 := by simpa [hq] using hi
    have hst : (store ad v).run P w = .ok () (w.setCell ad v) := by rw [run_store P w ad v .plain h1]; simp [hc, hf]
    unfold execOp
    simp [ho, hx, hy, Instr.storeAt, Instr.sureAddr, storeVar, sizeOf, typeInfo, hq, hs, h2, storeCells]
    rw [Addr.add_zero', hst]; rfl

theorem exec_move {ρ : Operand → Value} {o : Oper} (x : Operand) (ho : o.op = .move x) (v : Value) (hx : ρ x = v) (w : World) : (execOp ρ o).run P w = .ok (.value v) w := by
  subst hx; unfold execOp; simp [ho]
theorem exec_nilCheck {ρ : Operand → Value} {o : Oper} (x : Operand) (ho : o.op = .nilCheck x) (ad : Addr) (hx : ρ x = .pointer (some ad)) (w : World) : (execOp ρ o).run P w = .ok (.value (.pointer (some ad))) w := by
  unfold execOp; simp [ho, hx]

end

theorem ret_nat {k : IntKind} {a b : Nat} (h : a = b) : Ending.returned (.int k a) = .returned (.int k b) := by rw [h]
theorem ret_int {k : IntKind} {a b : Int} (h : a = b) : Ending.returned (.int k a) = .returned (.int k b) := by rw [h]
theorem wrapM (n : Nat) : IntKind.u64.wrap (n : Int) = ((n % 18446744073709551616 : Nat) : Int) := by
  have h : IntKind.u64.wrap (n : Int) = (n : Int) % 18446744073709551616 := by simp [IntKind.wrap, IntKind.bits, IntKind.signed]
  rw [h]; omega
theorem wrap_id {n : Nat} (hn : n < 18446744073709551616) : IntKind.u64.wrap (n : Int) = (n : Int) := by
  rw [wrapM, Nat.mod_eq_of_lt hn]

/-- The cells of a row of n numbers of one kind. -/
def rowOf (kd : IntKind) (n : Nat) (f : Nat → Nat) : List Value := (List.range n).map fun j => Value.int kd (f j)
theorem rowOf_get (kd : IntKind) (n : Nat) (f : Nat → Nat) (j : Nat) (hj : j < n) : (rowOf kd n f)[j]? = some (.int kd (f j)) := by
  unfold rowOf
  rw [List.getElem?_map, List.getElem?_range hj]; rfl
theorem rowOf_length (kd : IntKind) (n : Nat) (f : Nat → Nat) : (rowOf kd n f).length = n := by simp [rowOf]
theorem rowOf_size (kd : IntKind) (n : Nat) (f : Nat → Nat) : (rowOf kd n f).toArray.size = n := by simp [rowOf]
theorem rowOf_one (kd : IntKind) (n : Nat) (f : Nat → Nat) : ∀ v ∈ rowOf kd n f, v.oneCell' = true := by
  intro v hv
  simp [rowOf] at hv
  obtain ⟨j, _, rfl⟩ := hv
  rfl
theorem rowOf_ext {kd : IntKind} {n : Nat} {f g : Nat → Nat} (h : ∀ j, j < n → f j = g j) : rowOf kd n f = rowOf kd n g := by
  unfold rowOf
  apply List.map_congr_left
  intro j hj
  rw [h j (List.mem_range.1 hj)]
theorem rowOf_succ (kd : IntKind) (k : Nat) (f : Nat → Nat) : rowOf kd (k + 1) f = rowOf kd k f ++ [.int kd (f k)] := by simp [rowOf, List.range_succ]
def upd (f : Nat → Nat) (k v : Nat) : Nat → Nat := fun j => if j = k then v else f j
theorem rowOf_set (kd : IntKind) (n : Nat) (f : Nat → Nat) (k v : Nat) : (rowOf kd n f).toArray.setIfInBounds k (.int kd v) = (rowOf kd n (upd f k v)).toArray := by
  apply Array.ext'
  rw [Array.toList_setIfInBounds]
  apply List.ext_getElem?
  intro j
  show ((rowOf kd n f).set k _)[j]? = (rowOf kd n (upd f k v))[j]?
  rw [List.getElem?_set, rowOf_length]
  by_cases hj : j < n
  · rw [rowOf_get _ _ _ _ hj, rowOf_get _ _ _ _ hj]
    unfold upd
    by_cases e : k = j
    · subst e
      rw [if_pos rfl, if_pos hj, if_pos rfl]
    · rw [if_neg e, if_neg (fun h => e h.symm)]
  · rw [List.getElem?_eq_none (by rw [rowOf_length]; omega), List.getElem?_eq_none (by rw [rowOf_length]; omega)]
    by_cases e : k = j
    · rw [if_pos e, if_neg (by omega)]
    · rw [if_neg e]

/-- Block g is a row of n numbers. -/
def Row (w : World) (g : Nat) (t : TypeId) (kd : IntKind) (n : Nat) (f : Nat → Nat) : Prop := w.heap[g]? = some (.cells (rowOf kd n f).toArray t (0, 0))
theorem Row.cell {w : World} {g : Nat} {t : TypeId} {kd : IntKind} {n : Nat} {f : Nat → Nat} (h : Row w g t kd n f) (j : Nat) (hj : j < n) : w.cell? ⟨g, j, none⟩ = some (.int kd (f j)) := by
  rw [cell_of_row w g j _ t (0, 0) h, List.getElem?_toArray, rowOf_get _ _ _ _ hj]
theorem Row.free {w : World} {g : Nat} {t : TypeId} {kd : IntKind} {n : Nat} {f : Nat → Nat} (h : Row w g t kd n f) (j : Nat) : w.frozen? ⟨g, j, none⟩ = false := by
  have h' : w.heap[g]? = some (.cells (rowOf kd n f).toArray t (0, 0)) := h
  simp [World.frozen?, h']
theorem Row.lt {w : World} {g : Nat} {t : TypeId} {kd : IntKind} {n : Nat} {f : Nat → Nat} (h : Row w g t kd n f) : g < w.heap.size := lt_of_block h
theorem Row.set {w : World} {g : Nat} {t : TypeId} {kd : IntKind} {n : Nat} {f : Nat → Nat} (h : Row w g t kd n f) (k v : Nat) : Row (w.setCell ⟨g, k, none⟩ (.int kd v)) g t kd n (upd f k v) := by
  unfold Row
  rw [← rowOf_set]
  exact heap_setCell_same w g k _ t _ h
theorem Row.other {w : World} {g : Nat} {t : TypeId} {kd : IntKind} {n : Nat} {f : Nat → Nat} (h : Row w g t kd n f) (a : Addr) (v : Value) (ha : g ≠ a.block) : Row (w.setCell a v) g t kd n f := by
  unfold Row
  rw [heap_setCell_other _ _ _ _ ha]
  exact h
theorem Row.ext {w : World} {g : Nat} {t : TypeId} {kd : IntKind} {n : Nat} {f f' : Nat → Nat} (h : Row w g t kd n f) (he : ∀ j, j < n → f j = f' j) : Row w g t kd n f' := by
  unfold Row
  rw [← rowOf_ext he]; exact h
theorem Row.seg {w : World} {g : Nat} {t : TypeId} {kd : IntKind} {n : Nat} {f : Nat → Nat} (h : Row w g t kd n f) : ∀ j v, (rowOf kd n f)[j]? = some v → w.cell? ⟨g, 0 + j, none⟩ = some v := by
  intro j v hv
  rw [cell_of_row w g (0 + j) _ t (0, 0) h, Nat.zero_add, List.getElem?_toArray, hv]
theorem Row.new (w : World) (t : TypeId) (kd : IntKind) (n : Nat) (f : Nat → Nat) : Row (w.alloc (.cells (rowOf kd n f).toArray t)) w.heap.size t kd n f := heap_alloc_new w _
theorem Row.alloc {w : World} {g : Nat} {t : TypeId} {kd : IntKind} {n : Nat} {f : Nat → Nat} (h : Row w g t kd n f) (o : Obj) : Row (w.alloc o) g t kd n f := by
  unfold Row
  rw [Below.heap_alloc _ _ _ h.lt]; exact h
theorem Row.below {w w' : World} {g : Nat} {t : TypeId} {kd : IntKind} {n : Nat} {f : Nat → Nat} (h : Row w g t kd n f) (hb : Below w.heap.size w w') : Row w' g t kd n f := by
  unfold Row
  rw [hb.block g h.lt]; exact h
theorem Row.below' {w w' : World} {B g : Nat} {t : TypeId} {kd : IntKind} {n : Nat} {f : Nat → Nat} (h : Row w g t kd n f) (hb : Below B w w') (hg : g < B) : Row w' g t kd n f := by
  unfold Row
  rw [hb.block g hg]; exact h
theorem Row.drewN {w : World} {g : Nat} {t : TypeId} {kd : IntKind} {n : Nat} {f : Nat → Nat} (h : Row w g t kd n f) (m : Nat) : Row (w.drewN m) g t kd n f := h
theorem Below.drewN' {B : Nat} {a w : World} (h : Below B a w) (m : Nat) : Below B a (w.drewN m) := ⟨h.os, h.tape, h.output, h.size, h.block⟩
theorem replicate_rowOf (kd : IntKind) (n : Nat) : List.replicate n (Value.int kd 0) = rowOf kd n (fun _ => 0) := by
  unfold rowOf
  rw [List.map_const']
  simp

theorem results_cell {fn : Func} {a : Tmp} {t : TypeId} (h : fn.results = #[.cell a t]) (tmps : Array Value) (P : Program) (w : World) (ad : Addr) (ha : tmps.getD a undef = .pointer (some ad)) (v : Value)
    (hl : (loadVar t ad).run P w = .ok v w) : (results fn tmps).run P w = .ok v w := by
  have ha2 : tmps[a]?.getD undef = .pointer (some ad) := by rw [← Array.getD_eq_getD_getElem?]; exact ha
  unfold results
  rw [h]
  simp [Array.mapM_eq_mapM_toList, ha2, asAddr, hl]
theorem cell_set_ne {w : World} {g j k : Nat} {v x : Value} (hj : j ≠ k) (h : w.cell? ⟨g, j, none⟩ = some x) : (w.setCell ⟨g, k, none⟩ v).cell? ⟨g, j, none⟩ = some x := by
  rw [← h]
  refine World.cell?_setCell_other (a := ⟨g, k, none⟩) (h := by intro e; injection e with _ e2 _; exact hj e2.symm) (w := w) (v := v)
theorem or_join (i a b : Nat) (hb : b < 2 ^ i) : a * 2 ^ i ||| b = a * 2 ^ i + b := by
  rw [Nat.mul_comm, Nat.two_pow_add_eq_or_of_lt hb]


/-- Bytes as cells. -/
def bytesV (l : List UInt8) : List Value := l.map fun b => .int .u8 (b.toNat : Int)
theorem bytesV_append (l m : List UInt8) : bytesV (l ++ m) = bytesV l ++ bytesV m := by simp [bytesV]
theorem bytesV_length (l : List UInt8) : (bytesV l).length = l.length := by simp [bytesV]
theorem info5 : (Tryd.prog.info? 5).map (fun i => (i.zero, i.size, i.bytes)) = some (some (.int .u8 0), 1, 1) := by kernel_rfl
/-- A row of bytes of the call's own, and some more behind it. -/
theorem bytes_app {W wr : World} {B : Nat} {v : Value} {n : Nat} {l : List UInt8} (hown : wr.ownsRow B 5 1 v n (bytesV l)) (hb : Below B W wr) (hB : B ≤ wr.heap.size)
    (news : List UInt8) (m : Nat) (hm : news.length = m) (arr : Array Value) (harr : arr = (bytesV news).toArray) (hlt : n + m ≤ 1000000) :
    ∃ v' W3, (∀ (ρ : Operand → Value) (o : Oper) (s x : Operand), o.op = Op.call { callee := Callee.builtin Builtin.append, args := #[s, x], argTypes := #[33, 33] } → ρ s = v → ρ x = .slice (some ⟨wr.heap.size, 0, none⟩) m m → (execOp ρ o).run Tryd.prog (wr.alloc (.cells arr 5)) = .ok (.value v') W3) ∧
      W3.ownsRow B 5 1 v' (n + m) (bytesV (l ++ news)) ∧ Below B W W3 ∧ W3.heap.size ≥ wr.heap.size := by
  obtain ⟨i5, hi5, hz5, hs5, hb5⟩ := info_parts info5
  subst harr
  obtain ⟨v', W3, happ, hown', hgrow, hat⟩ := exec_append_own (P := Tryd.prog) (wr.alloc (.cells (bytesV news).toArray 5)) B 33 5 i5 _ 1 1 Tryd.underlying33 hi5 hz5 hs5 hb5 rfl (by decide) _ n _ (hown.alloc _) ⟨wr.heap.size, 0, none⟩ m m (bytesV news) (by rw [bytesV_length]; omega) (by
      intro j u hu
      rw [addr_add, cell_of_row _ wr.heap.size (0 + j) (bytesV news).toArray 5 (0, 0) (heap_alloc_new wr _), Nat.zero_add, List.getElem?_toArray]
      exact hu) (by intro u hu; simp [bytesV] at hu; obtain ⟨b, _, rfl⟩ := hu; rfl) (by unfold maxLen; omega) (by omega) (by simp; omega)
  refine ⟨v', W3, happ, by rw [bytesV_append]; exact hown', (hb.alloc hB _).grown hgrow (by simp; omega) (fun j hj => (hown.lt j hj).1), ?_⟩
  have := hgrow.size
  simp at this
  omega
/-- A row of bytes of the call's own as a string. -/
theorem bytes_str {wr : World} {B : Nat} {v : Value} {n : Nat} {l : List UInt8} (hown : wr.ownsRow B 5 1 v n (bytesV l)) (hn : 0 < n) :
    ∃ g cap, v = .slice (some ⟨g, 0, none⟩) n cap ∧ (Go.convert 33 9 (.slice (some ⟨g, 0, none⟩) n cap)).run Tryd.prog wr = .ok (.string ⟨l.toArray⟩) wr := by
  have hl : l.length = n := by have := hown.1; rw [bytesV_length] at this; omega
  rcases hown.2 with ⟨_, h0⟩ | ⟨g, cap, cur, rfl, _⟩
  · omega
  · subst hl
    refine ⟨g, cap, rfl, run_convert_bytes_back wr 33 9 5 ⟨g, 0, none⟩ cap l Tryd.underlying33 Tryd.underlying5 Tryd.underlying9 (fun j hj => ?_)⟩
    rw [addr_add, Nat.zero_add, hown.cellAt j (by omega)]
    unfold bytesV
    rw [List.getElem?_map, List.getElem?_eq_getElem hj]
    rfl

section
variable {P : Program} {ops : Array Oper} {Q : Exit → Act → World → Prop} {md : Region.Mode} {S : World → Prop} {f : Nat}
/-- Whatever order is picked from here on; S holds behind each operation but number f. -/
def AnyF (P : Program) (md : Region.Mode) (ops : Array Oper) (Q : Exit → Act → World → Prop) (S : World → Prop) (f : Nat) : Nat → Array Bool → Act → World → Prop
  | 0, listed, a, w => Region.ready md ops listed = [] ∧ Q .normal a w
  | n + 1, listed, a, w => (Region.ready md ops listed = [] → Q .normal a w) ∧
    ∀ i ∈ Region.ready md ops listed, wpOp P ops Q i (fun a' w' => (i ≠ f → S w' ∧ AnyF P md ops Q S f n (listed.setIfInBounds i true) a' w') ∧ (i = f → wpAny P md ops Q n (listed.setIfInBounds i true) a' w')) a w
theorem any_of_F : ∀ (n : Nat) (listed : Array Bool) (a : Act) (w : World), AnyF P md ops Q S f n listed a w → wpAny P md ops Q n listed a w
  | 0, _, _, _, h => h
  | n + 1, _, _, _, h => ⟨h.1, fun i hi => wpOp_mono (fun a' w' h' => (by by_cases e : i = f; exact h'.2 e; exact any_of_F n _ a' w' (h'.1 e).2)) (h.2 i hi)⟩
theorem AnyF.first {i : Nat} {oi : Oper} {v : Value} (hi : ops[i]? = some oi) (hsel : ∀ (j : Nat) (o : Oper) cs b, ops[j]? = some o → o.op ≠ .select cs b)
    (hQ : ∀ c a w, Q (.panic c) (a.put oi.dst v) w → Q (.panic c) a w) (hif : i ≠ f) (hw : ∀ o, ops[f]? = some o → ∃ e ∈ o.after, Region.binds md e = true ∧ e.on = i) :
    ∀ (n : Nat) (listed : Array Bool) (a : Act) (w : World),
      (∀ j oj, ops[j]? = some oj → j ≠ i → listed.getD j true = false → (∀ e ∈ oj.after, Region.binds md e = true → e.on ≠ i) → oi.apart ops oj = true) →
      i ∈ Region.ready md ops listed → YieldsIf P ops S oi v a → S w → AnyF P md ops Q S f n (listed.setIfInBounds i true) (a.put oi.dst v) w → AnyF P md ops Q S f (n + 1) listed a w := by
  intro n
  induction n with
  | zero =>
    intro listed a w _ hr hy hS H
    refine ⟨fun h => (by rw [h] at hr; cases hr), fun j hj => ?_⟩
    by_cases hji : j = i
    · subst hji; exact hy.wpOp hi hS ⟨fun _ => ⟨hS, H⟩, fun e => absurd e hif⟩
    · have := ready_mono hj hji
      rw [H.1] at this
      cases this
  | succ n ih =>
    intro listed a w hfree hr hy hS H
    refine ⟨fun h => (by rw [h] at hr; cases hr), fun j hj => ?_⟩
    by_cases hji : j = i
    · subst hji; exact hy.wpOp hi hS ⟨fun _ => ⟨hS, H⟩, fun e => absurd e hif⟩
    · have h1 := H.2 j (ready_mono hj hji)
      obtain ⟨hjun, oj, hoj, hall⟩ := mem_ready.1 hj
      have hnot : ∀ e ∈ oj.after, Region.binds md e = true → e.on ≠ i := fun e he hb heq => by
        have h1 := hall e he hb
        have h0 := (mem_ready.1 hr).1
        rw [heq] at h1
        rcases Nat.lt_or_ge i listed.size with h' | h'
        · simp [h'] at h0 h1; rw [h0] at h1; cases h1
        · simp [Array.getElem?_eq_none h'] at h1
      have hjf : j ≠ f := by
        intro e
        subst e
        obtain ⟨e, he, hb, hon⟩ := hw oj hoj
        exact hnot e he hb hon
      have h2 := wpOp_putIf hoj (hfree j oj hoj hji hjun hnot) (fun cs b => hsel i oi cs b hi) (fun cs b => hsel j oj cs b hoj) hQ hy h1
      have hfree' : ∀ k ok, ops[k]? = some ok → k ≠ i → (listed.setIfInBounds j true).getD k true = false →
          (∀ e ∈ ok.after, Region.binds md e = true → e.on ≠ i) → oi.apart ops ok = true := fun k ok hk hki hun hno => by
        refine hfree k ok hk hki ?_ hno
        by_cases hjk : j = k
        · subst hjk; exact hjun
        · rw [getD_set_ne true hjk] at hun; exact hun
      refine wpOp_mono (fun a' w' h3 => ⟨fun _ => ⟨(h3.2.1 hjf).1, ih (listed.setIfInBounds j true) a' w' hfree' (ready_mono hr (Ne.symm hji)) h3.1 (h3.2.1 hjf).1 ?_⟩, fun e => absurd e hjf⟩) h2
      rw [Array.setIfInBounds_comm _ _ hji]
      exact (h3.2.1 hjf).2
variable {n : Nat} {listed : Array Bool} {a : Act} {w w2 : World} {i : Nat} {rs : List Nat}
theorem AnyF.take (i : Nat) (d : Option Tmp) (opr : Op) (v : Value) (ho : (ops[i]?).map (fun o => (o.dst, o.op, o.guard)) = some (d, opr, none)) (hs : Region.noSelect ops = true) (hf : Region.free md ops listed i = true) (hr : (Region.ready md ops listed).contains i = true)
    (hQ : ∀ c a w, Q (.panic c) (a.put d v) w → Q (.panic c) a w) (hif : (i == f) = false) (hwt : Region.waitsFor md ops f i = true) (hy : ∀ (o : Oper), o.op = opr → ∀ w, S w → (execOp a.eval o).run P w = .ok (.value v) w) (hS : S w)
    (h : AnyF P md ops Q S f n (listed.setIfInBounds i true) (a.put d v) w) : AnyF P md ops Q S f (n + 1) listed a w := by
  cases hq : ops[i]? with
  | none => simp [hq] at ho
  | some o =>
    simp [hq] at ho
    obtain ⟨rfl, rfl, hg⟩ := ho
    refine AnyF.first hq (Region.noSelect_spec hs) hQ (by simpa using hif) ?_ n listed a w (Region.free_spec hq hf) (by simpa using hr) (Or.inl ⟨by simp [Region.wanted, hg], hy o rfl⟩) hS h
    intro o2 ho2
    obtain ⟨oj, h1, e, h2, h3, h4⟩ := Region.waitsFor_spec hwt
    rw [ho2] at h1
    cases h1
    exact ⟨e, h2, h3, h4⟩
theorem F_of_any : ∀ (n : Nat) (listed : Array Bool) (a : Act) (w : World), wpAny P md ops Q n listed a w → AnyF P md ops Q (fun _ => True) f n listed a w
  | 0, _, _, _, h => h
  | n + 1, _, _, _, h => ⟨h.1, fun i hi => wpOp_mono (fun a' w' h' => ⟨fun _ => ⟨trivial, F_of_any n _ a' w' h'⟩, fun _ => h'⟩) (h.2 i hi)⟩
/-- What yields its value in any world may be taken first, whether or not the last store waits for it. -/
theorem AnyF.first0 {i g : Nat} {oi : Oper} {v : Value} (hi : ops[i]? = some oi) (hsel : ∀ (j : Nat) (o : Oper) cs b, ops[j]? = some o → o.op ≠ .select cs b)
    (hQ : ∀ c a w, Q (.panic c) (a.put oi.dst v) w → Q (.panic c) a w) (hif : i ≠ f) (hg : ops[g]? = none) :
    ∀ (n : Nat) (listed : Array Bool) (a : Act) (w : World),
      (∀ j oj, ops[j]? = some oj → j ≠ i → listed.getD j true = false → (∀ e ∈ oj.after, Region.binds md e = true → e.on ≠ i) → oi.apart ops oj = true) →
      i ∈ Region.ready md ops listed → YieldsIf P ops (fun _ => True) oi v a → S w → AnyF P md ops Q S f n (listed.setIfInBounds i true) (a.put oi.dst v) w → AnyF P md ops Q S f (n + 1) listed a w := by
  intro n
  induction n with
  | zero =>
    intro listed a w _ hr hy hS H
    refine ⟨fun h => (by rw [h] at hr; cases hr), fun j hj => ?_⟩
    by_cases hji : j = i
    · subst hji; exact hy.wpOp hi trivial ⟨fun _ => ⟨hS, H⟩, fun e => absurd e hif⟩
    · have := ready_mono hj hji
      rw [H.1] at this
      cases this
  | succ n ih =>
    intro listed a w hfree hr hy hS H
    refine ⟨fun h => (by rw [h] at hr; cases hr), fun j hj => ?_⟩
    by_cases hji : j = i
    · subst hji; exact hy.wpOp hi trivial ⟨fun _ => ⟨hS, H⟩, fun e => absurd e hif⟩
    · have h1 := H.2 j (ready_mono hj hji)
      obtain ⟨hjun, oj, hoj, hall⟩ := mem_ready.1 hj
      have hnot : ∀ e ∈ oj.after, Region.binds md e = true → e.on ≠ i := fun e he hb heq => by
        have h1 := hall e he hb
        have h0 := (mem_ready.1 hr).1
        rw [heq] at h1
        rcases Nat.lt_or_ge i listed.size with h' | h'
        · simp [h'] at h0 h1; rw [h0] at h1; cases h1
        · simp [Array.getElem?_eq_none h'] at h1
      have h2 := wpOp_putIf hoj (hfree j oj hoj hji hjun hnot) (fun cs b => hsel i oi cs b hi) (fun cs b => hsel j oj cs b hoj) hQ hy h1
      have hfree' : ∀ k ok, ops[k]? = some ok → k ≠ i → (listed.setIfInBounds j true).getD k true = false →
          (∀ e ∈ ok.after, Region.binds md e = true → e.on ≠ i) → oi.apart ops ok = true := fun k ok hk hki hun hno => by
        refine hfree k ok hk hki ?_ hno
        by_cases hjk : j = k
        · subst hjk; exact hjun
        · rw [getD_set_ne true hjk] at hun; exact hun
      have hig : i ≠ g := fun e => by rw [← e, hi] at hg; cases hg
      refine wpOp_mono (fun a' w' h3 => ⟨fun hjf => ⟨(h3.2.1 hjf).1, ih (listed.setIfInBounds j true) a' w' hfree' (ready_mono hr (Ne.symm hji)) h3.1 (h3.2.1 hjf).1 ?_⟩, fun hjf => ?_⟩) h2
      · rw [Array.setIfInBounds_comm _ _ hji]
        exact (h3.2.1 hjf).2
      · refine any_of_F (S := fun _ => True) (f := g) _ _ _ _ (AnyF.first hi hsel hQ hig (fun o ho => by rw [hg] at ho; cases ho) n (listed.setIfInBounds j true) a' w' hfree' (ready_mono hr (Ne.symm hji)) h3.1 trivial (F_of_any _ _ _ _ ?_))
        rw [Array.setIfInBounds_comm _ _ hji]
        exact h3.2.2 hjf
theorem AnyF.take0 {n : Nat} {listed : Array Bool} {a : Act} {w : World} (i g : Nat) (d : Option Tmp) (opr : Op) (v : Value) (ho : (ops[i]?).map (fun o => (o.dst, o.op, o.guard)) = some (d, opr, none)) (hs : Region.noSelect ops = true) (hf : Region.free md ops listed i = true) (hr : (Region.ready md ops listed).contains i = true)
    (hQ : ∀ c a w, Q (.panic c) (a.put d v) w → Q (.panic c) a w) (hif : (i == f) = false) (hg : ops[g]? = none) (hy : ∀ (o : Oper), o.op = opr → ∀ w, (execOp a.eval o).run P w = .ok (.value v) w) (hS : S w)
    (h : AnyF P md ops Q S f n (listed.setIfInBounds i true) (a.put d v) w) : AnyF P md ops Q S f (n + 1) listed a w := by
  cases hq : ops[i]? with
  | none => simp [hq] at ho
  | some o =>
    simp [hq] at ho
    obtain ⟨rfl, rfl, hgd⟩ := ho
    exact AnyF.first0 hq (Region.noSelect_spec hs) hQ (by simpa using hif) hg n listed a w (Region.free_spec hq hf) (by simpa using hr) (Or.inl ⟨by simp [Region.wanted, hgd], fun w _ => hy o rfl w⟩) hS h
/-- Each of these comes up next. -/
def ReadyF (P : Program) (md : Region.Mode) (ops : Array Oper) (Q : Exit → Act → World → Prop) (S : World → Prop) (f n : Nat) (listed : Array Bool) (a : Act) (w : World) (rs : List Nat) : Prop :=
  ∀ i ∈ rs, wpOp P ops Q i (fun a' w' => (i ≠ f → S w' ∧ AnyF P md ops Q S f n (listed.setIfInBounds i true) a' w') ∧ (i = f → wpAny P md ops Q n (listed.setIfInBounds i true) a' w')) a w
theorem AnyF.ready (hr : Region.ready md ops listed = rs) (hne : rs ≠ []) (h : ReadyF P md ops Q S f n listed a w rs) : AnyF P md ops Q S f (n + 1) listed a w :=
  ⟨fun h0 => absurd (hr ▸ h0) hne, hr ▸ h⟩
theorem AnyF.done (hr : Region.ready md ops listed = []) (h : Q .normal a w) : ∀ n, AnyF P md ops Q S f n listed a w
  | 0 => ⟨hr, h⟩
  | _ + 1 => ⟨fun _ => h, by rw [hr]; simp⟩
theorem any_doneF (hr : Region.ready md ops listed = []) (h : Q .normal a w) (n : Nat) : wpAny P md ops Q n listed a w := any_of_F (S := fun _ => True) (f := 0) _ _ _ _ (AnyF.done hr h n)
theorem ReadyF.nil : ReadyF P md ops Q S f n listed a w [] := fun _ h => by cases h
theorem ReadyF.cons {o : Oper} (ho : ops[i]? = some o) (hg : o.guard = none)
    (h : ∀ K : Act → World → Prop, (∀ a' w', (i ≠ f → S w' ∧ AnyF P md ops Q S f n (listed.setIfInBounds i true) a' w') ∧ (i = f → wpAny P md ops Q n (listed.setIfInBounds i true) a' w') → K a' w') → Oper.wp P o a w K Q) (hs : ReadyF P md ops Q S f n listed a w rs) : ReadyF P md ops Q S f n listed a w (i :: rs) := fun j hj => by
  rcases List.mem_cons.1 hj with rfl | hj
  · refine wpOp_step ho (fun K hK => ?_)
    rw [if_pos (by simp [Region.wanted, hg])]
    exact h K hK
  · exact hs j hj
theorem ReadyF.op (d : Option Tmp) (opr : Op) (ho : (ops[i]?).map (fun o => (o.dst, o.op, o.guard)) = some (d, opr, none)) (v : Value)
    (hrun : ∀ o : Oper, o.op = opr → (execOp a.eval o).run P w = .ok (.value v) w2) (hS : S w2) (h : AnyF P md ops Q S f n (listed.setIfInBounds i true) (a.put d v) w2)
    (hs : ReadyF P md ops Q S f n listed a w rs) (hif : i ≠ f := by decide) : ReadyF P md ops Q S f n listed a w (i :: rs) := by
  cases hq : ops[i]? with
  | none => simp [hq] at ho
  | some o =>
    simp [hq] at ho
    obtain ⟨rfl, rfl, hg⟩ := ho
    exact ReadyF.cons hq hg (fun K hK => by unfold Oper.wp; rw [hrun o rfl]; exact hK _ _ ⟨fun _ => ⟨hS, h⟩, fun e => absurd e hif⟩) hs
theorem ReadyF.last (opr : Op) (ho : (ops[f]?).map (fun o => (o.dst, o.op, o.guard)) = some (none, opr, none))
    (hrun : ∀ o : Oper, o.op = opr → (execOp a.eval o).run P w = .ok .skip w2) (h : wpAny P md ops Q n (listed.setIfInBounds f true) a w2)
    (hs : ReadyF P md ops Q S f n listed a w rs) : ReadyF P md ops Q S f n listed a w (f :: rs) := by
  cases hq : ops[f]? with
  | none => simp [hq] at ho
  | some o =>
    simp [hq] at ho
    obtain ⟨hd, rfl, hg⟩ := ho
    refine ReadyF.cons hq hg (fun K hK => ?_) hs
    unfold Oper.wp
    rw [hrun o rfl]
    have : a.put o.dst undef = a := by rw [hd]; rfl
    have h2 : K a w2 := hK _ _ ⟨fun e => absurd rfl e, fun _ => h⟩
    rw [← this] at h2
    exact h2
theorem ReadyF.call (d : Option Tmp) (g : FuncId) (args : Array Operand) (tys : Array TypeId) (ho : (ops[i]?).map (fun o => (o.dst, o.op, o.guard)) = some (d, .call { callee := .value (.func g), args := args, argTypes := tys }, none))
    (avs : Array Value) (has : args.map a.eval = avs) (eg : ∀ args w, (callFunc g args).run P w = .ok (.enter g args) w) (R : Ending → World → Prop) (hc : Calls P g avs w R)
    (hK : ∀ v w', R (.returned v) w' → S w' ∧ AnyF P md ops Q S f n (listed.setIfInBounds i true) (a.put d v) w') (hnp : ∀ c w', ¬ R (.panicked c) w') (hno : ∀ w', ¬ R .outgrown w')
    (hs : ReadyF P md ops Q S f n listed a w rs) (hif : i ≠ f := by decide) : ReadyF P md ops Q S f n listed a w (i :: rs) := by
  cases hq : ops[i]? with
  | none => simp [hq] at ho
  | some o =>
    simp [hq] at ho
    obtain ⟨rfl, hop, hg⟩ := ho
    refine ReadyF.cons hq hg (fun K hK2 => ?_) hs
    have hev : a.eval (.func g) = .func (.func g) #[] #[] := rfl
    have hres : (resolve a.eval { callee := .value (.func g), args := args, argTypes := tys } o.type).run P w = .ok { target := .fn (.func g) #[], args := avs } w := by
      simp [resolve, hev, has, Deferred.ofValue]
    have hx : (execOp a.eval o).run P w = .ok (.enter g avs) w := by
      unfold execOp
      simp only [hop, Sem.run_bind, hres, Result.andThen_ok, invoke]
      simp [eg]
    unfold Oper.wp
    rw [hx]
    refine hc.mono ?_
    intro e w' hr
    cases e with
    | returned v => exact hK2 _ _ ⟨fun _ => hK v w' hr, fun e => absurd e hif⟩
    | panicked c => exact (hnp c w' hr).elim
    | outgrown => exact (hno w' hr).elim
end

section
variable {P : Program} {ops : Array Oper} {Q : Exit → Act → World → Prop} {md : Region.Mode} {S : World → Prop} {f n : Nat} {listed : Array Bool} {a : Act} {w w2 : World} {rs : List Nat}
/-- As AnyF.take, where nothing is last, for an operation whose guard is met. -/
theorem AnyF.takeG (hfn : ops[f]? = none) (i : Nat) (d : Option Tmp) (opr : Op) (gd : Option (Nat × Bool)) (v : Value) (ho : (ops[i]?).map (fun o => (o.dst, o.op, o.guard)) = some (d, opr, gd)) (hs : Region.noSelect ops = true) (hf : Region.free md ops listed i = true) (hr : (Region.ready md ops listed).contains i = true)
    (hQ : ∀ c a w, Q (.panic c) (a.put d v) w → Q (.panic c) a w) (hif : (i == f) = false) (hw : ∀ o, ops[i]? = some o → Region.wanted o (yielded ops a.tmps) = true) (hy : ∀ (o : Oper), o.op = opr → ∀ w, S w → (execOp a.eval o).run P w = .ok (.value v) w) (hS : S w)
    (h : AnyF P md ops Q S f n (listed.setIfInBounds i true) (a.put d v) w) : AnyF P md ops Q S f (n + 1) listed a w := by
  cases hq : ops[i]? with
  | none => simp [hq] at ho
  | some o =>
    have hw2 := hw o hq
    simp [hq] at ho
    obtain ⟨rfl, rfl, hg⟩ := ho
    exact AnyF.first hq (Region.noSelect_spec hs) hQ (by simpa using hif) (fun o2 ho2 => by rw [hfn] at ho2; cases ho2) n listed a w (Region.free_spec hq hf) (by simpa using hr) (Or.inl ⟨hw2, hy o rfl⟩) hS h
theorem ReadyF.consG {i : Nat} {o : Oper} (ho : ops[i]? = some o) (hw : Region.wanted o (yielded ops a.tmps) = true)
    (h : ∀ K : Act → World → Prop, (∀ a' w', (i ≠ f → S w' ∧ AnyF P md ops Q S f n (listed.setIfInBounds i true) a' w') ∧ (i = f → wpAny P md ops Q n (listed.setIfInBounds i true) a' w') → K a' w') → Oper.wp P o a w K Q) (hs : ReadyF P md ops Q S f n listed a w rs) : ReadyF P md ops Q S f n listed a w (i :: rs) := fun j hj => by
  rcases List.mem_cons.1 hj with rfl | hj
  · refine wpOp_step ho (fun K hK => ?_)
    rw [if_pos hw]
    exact h K hK
  · exact hs j hj
theorem ReadyF.callG {i : Nat} (d : Option Tmp) (g : FuncId) (args : Array Operand) (tys : Array TypeId) (gd : Option (Nat × Bool)) (ho : (ops[i]?).map (fun o => (o.dst, o.op, o.guard)) = some (d, .call { callee := .value (.func g), args := args, argTypes := tys }, gd)) (hw : ∀ o, ops[i]? = some o → Region.wanted o (yielded ops a.tmps) = true)
    (avs : Array Value) (has : args.map a.eval = avs) (eg : ∀ args w, (callFunc g args).run P w = .ok (.enter g args) w) (R : Ending → World → Prop) (hc : Calls P g avs w R)
    (hK : ∀ v w', R (.returned v) w' → S w' ∧ AnyF P md ops Q S f n (listed.setIfInBounds i true) (a.put d v) w') (hnp : ∀ c w', ¬ R (.panicked c) w') (hno : ∀ w', ¬ R .outgrown w')
    (hs : ReadyF P md ops Q S f n listed a w rs) (hif : i ≠ f := by decide) : ReadyF P md ops Q S f n listed a w (i :: rs) := by
  cases hq : ops[i]? with
  | none => simp [hq] at ho
  | some o =>
    have hw2 := hw o hq
    simp [hq] at ho
    obtain ⟨rfl, hop, hg⟩ := ho
    refine ReadyF.consG hq hw2 (fun K hK2 => ?_) hs
    have hev : a.eval (.func g) = .func (.func g) #[] #[] := rfl
    have hres : (resolve a.eval { callee := .value (.func g), args := args, argTypes := tys } o.type).run P w = .ok { target := .fn (.func g) #[], args := avs } w := by
      simp [resolve, hev, has, Deferred.ofValue]
    have hx : (execOp a.eval o).run P w = .ok (.enter g avs) w := by
      unfold execOp
      simp only [hop, Sem.run_bind, hres, Result.andThen_ok, invoke]
      simp [eg]
    unfold Oper.wp
    rw [hx]
    refine hc.mono ?_
    intro e w' hr
    cases e with
    | returned v => exact hK2 _ _ ⟨fun _ => hK v w' hr, fun e => absurd e hif⟩
    | panicked c => exact (hnp c w' hr).elim
    | outgrown => exact (hno w' hr).elim
theorem ReadyF.opG {i : Nat} (d : Option Tmp) (opr : Op) (gd : Option (Nat × Bool)) (ho : (ops[i]?).map (fun o => (o.dst, o.op, o.guard)) = some (d, opr, gd)) (hw : ∀ o, ops[i]? = some o → Region.wanted o (yielded ops a.tmps) = true) (v : Value)
    (hrun : ∀ o : Oper, o.op = opr → (execOp a.eval o).run P w = .ok (.value v) w2) (hS : S w2) (h : AnyF P md ops Q S f n (listed.setIfInBounds i true) (a.put d v) w2)
    (hs : ReadyF P md ops Q S f n listed a w rs) (hif : i ≠ f := by decide) : ReadyF P md ops Q S f n listed a w (i :: rs) := by
  cases hq : ops[i]? with
  | none => simp [hq] at ho
  | some o =>
    have hw2 := hw o hq
    simp [hq] at ho
    obtain ⟨rfl, rfl, hg⟩ := ho
    exact ReadyF.consG hq hw2 (fun K hK => by unfold Oper.wp; rw [hrun o rfl]; exact hK _ _ ⟨fun _ => ⟨hS, h⟩, fun e => absurd e hif⟩) hs
end

section
variable {P : Program} {ops : Array Oper} {Q : Exit → Act → World → Prop} {md : Region.Mode} {S : World → Prop} {f n : Nat} {listed : Array Bool} {a : Act} {w w2 : World} {rs : List Nat}
theorem ReadyF.op0 {i : Nat} (opr : Op) (ho : (ops[i]?).map (fun o => (o.dst, o.op, o.guard)) = some (none, opr, none))
    (hrun : ∀ o : Oper, o.op = opr → (execOp a.eval o).run P w = .ok .skip w2) (hS : S w2) (h : AnyF P md ops Q S f n (listed.setIfInBounds i true) a w2)
    (hs : ReadyF P md ops Q S f n listed a w rs) (hif : i ≠ f := by decide) : ReadyF P md ops Q S f n listed a w (i :: rs) := by
  cases hq : ops[i]? with
  | none => simp [hq] at ho
  | some o =>
    simp [hq] at ho
    obtain ⟨hd, rfl, hg⟩ := ho
    refine ReadyF.cons hq hg (fun K hK => ?_) hs
    unfold Oper.wp
    rw [hrun o rfl]
    have : a.put o.dst undef = a := by rw [hd]; rfl
    have h2 : K a w2 := hK _ _ ⟨fun _ => ⟨hS, h⟩, fun e => absurd e hif⟩
    rw [← this] at h2
    exact h2
end
/-- How a piece of code that only goes on may be left. -/
def Nrm (K : Act → World → Prop) : Exit → Act → World → Prop
  | .normal, a, w => K a w
  | _, _, _ => False
theorem nrm_intro {K : Act → World → Prop} {a : Act} {w : World} (h : K a w) : Nrm K .normal a w := h
theorem wpIn_nrm {F : Fence} {n : Nat} {P : Program} {c : Code} {Q : Exit → Act → World → Prop} {a : Act} {w : World} (h : c.wpIn F n P (Nrm (fun a w => Q .normal a w)) a w) : c.wpIn F n P Q a w :=
  wpIn_mono h (fun e a w h => by cases e <;> first | exact h | exact h.elim)
theorem wp_nrm {P : Program} {c : Code} {Q : Exit → Act → World → Prop} {a : Act} {w : World} (h : c.wp P (Nrm (fun a w => Q .normal a w)) a w) : c.wp P Q a w :=
  (wpIn_wide (n := 0)).1 (wpIn_nrm ((wpIn_wide (n := 0)).2 h))
theorem exec_assign {P : Program} {ρ : Operand → Value} {o : Oper} (x : Operand) (ho : o.op = .assign x) (v : Value) (hx : ρ x = v) (w : World) : (execOp ρ o).run P w = .ok (.value v) w := by
  subst hx; unfold execOp; simp [ho]
theorem wp_cut {P : Program} {c : Code} {Q : Exit → Act → World → Prop} {a : Act} {w : World} (K : Act → World → Prop) (h : c.wp P (Nrm K) a w) (h2 : ∀ a w, K a w → Q .normal a w) : c.wp P Q a w :=
  wp_nrm ((wpIn_wide (n := 0)).1 (wpIn_mono ((wpIn_wide (n := 0)).2 h) (fun e a w h => by cases e <;> first | exact h2 _ _ h | exact h.elim)))
end Go.Proofs.YtkkdcecnegdipaaDoor.R
