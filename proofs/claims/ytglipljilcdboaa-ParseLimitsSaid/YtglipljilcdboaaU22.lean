/- Several texts, one behind the other; each says by itself what it proves, and on what conditions. -/
import Derived.Test.YtglipljilcdboaaU09
import Derived.WalkKit
import Derived.WalkSpells
import Derived.WalkLawsBesides
import Derived.Handy
import Derived.Lib.Hide
import Derived.RegionTactic
import Derived.Maps.AppendAt
import Derived.Outline
import Derived.BigQuiet
import Derived.Deep.QuietTactic
import Derived.OneCell
import Derived.Deep.RegionWith
import Derived.Deep.RegionHeld3
import Derived.Deep.DeepCutAuto
import Derived.Deep.CutBlock
import Derived.OrdersHeld
import Derived.Still
import Derived.StillTail
/- Regions whose order is drawn, operation by operation; whole aggregates loaded and stored. No condition but what each names. -/
namespace Go.Proofs.Ytglipljilcdboaa.R
open Go.RowKit
set_option linter.unusedVariables false
set_option linter.unusedSimpArgs false

section
variable {P : Program}

theorem addr_add (g o j : Nat) : (⟨g, o, none⟩ : Addr).add j = ⟨g, o + j, none⟩ := by unfold Addr.add; split <;> simp_all

theorem run_loadVar_seg (w : World) (ty : TypeId) (g off : Nat) (cs : List Value) (d : TypeDesc) (hc : ∀ j v, cs[j]? = some v → w.cell? ⟨g, off + j, none⟩ = some v)
    (hu : P.underlying ty = some d) (hd : (match d with | .struct _ | .array _ _ => true | _ => false) = true) (hi : (P.info? ty).map (·.size) = some cs.length) :
    (loadVar ty ⟨g, off, none⟩).run P w = .ok (.agg cs.toArray) w := by
  have hl : (loadCells ⟨g, off, none⟩ cs.length).run P w = .ok cs.toArray w :=
    run_loadCells_list (P := P) w ⟨g, off, none⟩ cs (fun j v hv => by rw [addr_add]; exact hc j v hv)
  cases hq : P.info? ty with
  | none => simp [hq] at hi
  | some i =>
    have hs : i.size = cs.length := by simpa [hq] using hi
    have hagg : (isAgg ty).run P w = .ok true w := by
      unfold isAgg
      rw [Sem.run_bind, run_underlying hu w]
      cases d <;> simp_all
    simp [loadVar, Sem.run_bind, hagg, sizeOf, typeInfo, hq, hs, hl]

def splice (cur : Array Value) (off : Nat) (cs : List Value) : Array Value := (cur.toList.take off ++ cs ++ cur.toList.drop (off + cs.length)).toArray

theorem run_storeVar_seg (w : World) (ty : TypeId) (g off : Nat) (cur : Array Value) (t : TypeId) (cs : List Value) (hg : w.heap[g]? = some (.cells cur t (0, 0))) (hfit : off + cs.length ≤ cur.size)
    (h1 : ∀ v ∈ cs, v.oneCell' = true) (hi : (P.info? ty).map (·.size) = some cs.length) :
    (storeVar ty ⟨g, off, none⟩ (.agg cs.toArray)).run P w = .ok () (w.setRow g (splice cur off cs)) := by
  have hst := run_storeCells_at P g off t cs 0 cur w hg (by simpa using hfit) h1
  cases hq : P.info? ty with
  | none => simp [hq] at hi
  | some i =>
    have hs : i.size = cs.length := by simpa [hq] using hi
    simp only [Nat.add_zero] at hst
    simp [storeVar, sizeOf, typeInfo, hq, hs, Value.cells, hst, splice]

theorem wpList_run {ops : Array Oper} {rest : List Oper} {o : Oper} {a : Act} {w w2 : World} {Q : Exit → Act → World → Prop} (hgd : o.guard = none) (v : Value)
    (hrun : (execOp a.eval o).run P w = .ok (.value v) w2) (h : wpList P ops Q rest (a.put o.dst v) w2) : wpList P ops Q (o :: rest) a w :=
  wpList_plain hgd fun K hK => by unfold Oper.wp; rw [hrun]; exact hK _ _ h

theorem wpList_run0 {ops : Array Oper} {rest : List Oper} {o : Oper} {a : Act} {w w2 : World} {Q : Exit → Act → World → Prop} (hgd : o.guard = none)
    (hrun : (execOp a.eval o).run P w = .ok .skip w2) (h : wpList P ops Q rest (a.put o.dst undef) w2) : wpList P ops Q (o :: rest) a w :=
  wpList_plain hgd fun K hK => by unfold Oper.wp; rw [hrun]; exact hK _ _ h

theorem exec_store_seg {ρ : Operand → Value} {o : Oper} (w : World) (ty : TypeId) (x y : Operand) (ho : o.op = .store ty x y)
    (g off : Nat) (hx : ρ x = .pointer (some ⟨g, off, none⟩)) (cs : List Value) (hy : ρ y = .agg cs.toArray) (cur : Array Value) (t : TypeId) (hg : w.heap[g]? = some (.cells cur t (0, 0))) (hfit : off + cs.length ≤ cur.size)
    (h1 : ∀ v ∈ cs, v.oneCell' = true) (hi : (P.info? ty).map (·.size) = some cs.length) :
    (execOp ρ o).run P w = .ok .skip (w.setRow g (splice cur off cs)) := by
  unfold execOp
  simp only [ho, hx, hy, Instr.storeAt, Instr.sureAddr, Sem.run_bind, Sem.run_pure, Result.andThen_ok, run_storeVar_seg w ty g off cur t cs hg hfit h1 hi]

theorem exec_alloc_agg {ρ : Operand → Value} {o : Oper} (w : World) (ty : TypeId) (ho : o.op = .alloc ty) (cs : Array Value) (hz : (zeroValue ty).run P w = .ok (.agg cs) w) :
    (execOp ρ o).run P w = .ok (.value (.pointer (some ⟨w.heap.size, 0, none⟩))) (w.alloc (.cells cs ty)) := by
  unfold execOp
  simp only [ho, Instr.alloc, Sem.run_bind, hz, Result.andThen_ok, newVar, newRow, Value.cells, run_newObj_alloc, Sem.run_pure]

theorem splice_all (cur : Array Value) (cs : List Value) (h : cur.size = cs.length) : splice cur 0 cs = cs.toArray := by
  unfold splice
  simp [List.drop_eq_nil_of_le, h]

theorem AllReady.run {ops : Array Oper} {Q : Exit → Act → World → Prop} {md : Region.Mode} {fuel : Nat} {listed : Array Bool} {a : Act} {w w2 : World} {i : Nat} {o : Oper} {rs : List Nat} (ho : ops[i]? = some o) (hg : o.guard = none) (v : Value)
    (hrun : (execOp a.eval o).run P w = .ok (.value v) w2) (h : wpAny P md ops Q fuel (listed.setIfInBounds i true) (a.put o.dst v) w2)
    (hs : AllReady P md ops Q fuel listed a w rs) : AllReady P md ops Q fuel listed a w (i :: rs) :=
  AllReady.cons ho (fun K' hK => by rw [if_pos (by simp [Region.wanted, hg])]; unfold Oper.wp; rw [hrun]; exact hK _ _ h) hs

theorem AllReady.run0 {ops : Array Oper} {Q : Exit → Act → World → Prop} {md : Region.Mode} {fuel : Nat} {listed : Array Bool} {a : Act} {w w2 : World} {i : Nat} {o : Oper} {rs : List Nat} (ho : ops[i]? = some o) (hg : o.guard = none)
    (hrun : (execOp a.eval o).run P w = .ok .skip w2) (h : wpAny P md ops Q fuel (listed.setIfInBounds i true) (a.put o.dst undef) w2)
    (hs : AllReady P md ops Q fuel listed a w rs) : AllReady P md ops Q fuel listed a w (i :: rs) :=
  AllReady.cons ho (fun K' hK => by rw [if_pos (by simp [Region.wanted, hg])]; unfold Oper.wp; rw [hrun]; exact hK _ _ h) hs

theorem exec_append_own (w : World) (base : Nat) (t e : TypeId) (i : TypeInfo) (z : Value) (size bytes : Nat) (ht : P.underlying t = some (.slice e)) (hi : P.info? e = some i) (hz : i.zero = some z)
    (hsize : i.size = size) (hby : i.bytes = bytes) (hzs : z.cells.size = size) (hsz : 0 < size)
    (v : Value) (n : Nat) (xs : List Value) (hown : w.ownsRow base e size v n xs)
    (a : Addr) (m c : Nat) (news : List Value) (hl : news.length = m * size) (hnews : ∀ j u, news[j]? = some u → w.cell? (a.add j) = some u) (h1 : ∀ u ∈ news, u.oneCell' = true)
    (h63 : n + m ≤ maxLen) (hbytes : (n + m) * bytes ≤ 140737488355328) (hbase : base ≤ w.heap.size) :
    ∃ v' w', (∀ (ρ : Operand → Value) (o : Oper) (s x : Operand), o.op = Op.call { callee := Callee.builtin Builtin.append, args := #[s, x], argTypes := #[t, t] } → ρ s = v → ρ x = .slice (some a) m c → (execOp ρ o).run P w = .ok (.value v') w') ∧
      w'.ownsRow base e size v' (n + m) (xs ++ news) ∧ w.grownBy w' v.ownBlock ∧ (v'.ownBlock = v.ownBlock ∨ v'.ownBlock = some w.heap.size) := by
  obtain ⟨v', w', hrun, h2, h3, -, h4⟩ := run_append_own_at (P := P) w base t t e i z size bytes ht hi hz hsize hby hzs hsz v n xs hown a m c news hl hnews h1 h63 hbytes hbase
  refine ⟨v', w', ?_, h2, h3, h4⟩
  intro ρ o s x ho hs hx
  have hrun2 : (Builtin.append_ #[t, t] o.type #[v, .slice (some a) m c]).run P w = .ok v' w' := hrun
  unfold execOp
  simp [ho, resolve, invoke, builtin, hs, hx, hrun2]

section
variable {ops : Array Oper} {Q : Exit → Act → World → Prop} {md : Region.Mode} {fuel : Nat} {listed : Array Bool} {a : Act} {w w2 w3 : World} {i j : Nat} {rs : List Nat}
theorem AllReady.op (d : Option Tmp) (opr : Op) (ho : (ops[i]?).map (fun o => (o.dst, o.op, o.guard)) = some (d, opr, none)) (v : Value)
    (hrun : ∀ o : Oper, o.op = opr → (execOp a.eval o).run P w = .ok (.value v) w2) (h : wpAny P md ops Q fuel (listed.setIfInBounds i true) (a.put d v) w2)
    (hs : AllReady P md ops Q fuel listed a w rs) : AllReady P md ops Q fuel listed a w (i :: rs) := by
  cases hq : ops[i]? with
  | none => simp [hq] at ho
  | some o =>
    simp [hq] at ho
    obtain ⟨rfl, rfl, hg⟩ := ho
    exact AllReady.run hq hg v (hrun o rfl) h hs
theorem AllReady.op0 (opr : Op) (ho : (ops[i]?).map (fun o => (o.dst, o.op, o.guard)) = some (none, opr, none))
    (hrun : ∀ o : Oper, o.op = opr → (execOp a.eval o).run P w = .ok .skip w2) (h : wpAny P md ops Q fuel (listed.setIfInBounds i true) a w2)
    (hs : AllReady P md ops Q fuel listed a w rs) : AllReady P md ops Q fuel listed a w (i :: rs) := by
  cases hq : ops[i]? with
  | none => simp [hq] at ho
  | some o =>
    simp [hq] at ho
    obtain ⟨hd, rfl, hg⟩ := ho
    exact AllReady.run0 hq hg (hrun o rfl) (by rw [hd]; exact h) hs
end

theorem exec_move {ρ : Operand → Value} {o : Oper} (x : Operand) (ho : o.op = .move x) (v : Value) (hx : ρ x = v) (w : World) : (execOp ρ o).run P w = .ok (.value v) w := by
  subst hx; unfold execOp; simp [ho]
end

def rowOf (kd : IntKind) (n : Nat) (f : Nat → Nat) : List Value := (List.range n).map fun j => Value.int kd (f j)
theorem rowOf_get (kd : IntKind) (n : Nat) (f : Nat → Nat) (j : Nat) (hj : j < n) : (rowOf kd n f)[j]? = some (.int kd (f j)) := by
  unfold rowOf
  rw [List.getElem?_map, List.getElem?_range hj]; rfl
theorem rowOf_length (kd : IntKind) (n : Nat) (f : Nat → Nat) : (rowOf kd n f).length = n := by simp [rowOf]
theorem rowOf_ext {kd : IntKind} {n : Nat} {f g : Nat → Nat} (h : ∀ j, j < n → f j = g j) : rowOf kd n f = rowOf kd n g := by
  unfold rowOf
  apply List.map_congr_left
  intro j hj
  rw [h j (List.mem_range.1 hj)]
def upd (f : Nat → Nat) (k v : Nat) : Nat → Nat := fun j => if j = k then v else f j
theorem rowOf_set (kd : IntKind) (n : Nat) (f : Nat → Nat) (k v : Nat) : (rowOf kd n f).toArray.setIfInBounds k (.int kd v) = (rowOf kd n (upd f k v)).toArray := by
  apply Array.ext'
  rw [Array.toList_setIfInBounds]
  apply List.ext_getElem?
  intro j
  show ((rowOf kd n f).set k _)[j]? = (rowOf kd n (upd f k v))[j]?
  rw [List.getElem?_set, rowOf_length]
  by_cases hj : j < n
  · rw [rowOf_get _ _ _ _ hj, rowOf_get _ _ _ _ hj]
    unfold upd
    by_cases e : k = j
    · subst e
      rw [if_pos rfl, if_pos hj, if_pos rfl]
    · rw [if_neg e, if_neg (fun h => e h.symm)]
  · rw [List.getElem?_eq_none (by rw [rowOf_length]; omega), List.getElem?_eq_none (by rw [rowOf_length]; omega)]
    by_cases e : k = j
    · rw [if_pos e, if_neg (by omega)]
    · rw [if_neg e]

def Row (w : World) (g : Nat) (t : TypeId) (kd : IntKind) (n : Nat) (f : Nat → Nat) : Prop := w.heap[g]? = some (.cells (rowOf kd n f).toArray t (0, 0))
theorem Row.cell {w : World} {g : Nat} {t : TypeId} {kd : IntKind} {n : Nat} {f : Nat → Nat} (h : Row w g t kd n f) (j : Nat) (hj : j < n) : w.cell? ⟨g, j, none⟩ = some (.int kd (f j)) := by
  rw [cell_of_row w g j _ t (0, 0) h, List.getElem?_toArray, rowOf_get _ _ _ _ hj]
theorem Row.free {w : World} {g : Nat} {t : TypeId} {kd : IntKind} {n : Nat} {f : Nat → Nat} (h : Row w g t kd n f) (j : Nat) : w.frozen? ⟨g, j, none⟩ = false := by
  have h' : w.heap[g]? = some (.cells (rowOf kd n f).toArray t (0, 0)) := h
  simp [World.frozen?, h']
theorem Row.lt {w : World} {g : Nat} {t : TypeId} {kd : IntKind} {n : Nat} {f : Nat → Nat} (h : Row w g t kd n f) : g < w.heap.size := lt_of_block h
theorem Row.set {w : World} {g : Nat} {t : TypeId} {kd : IntKind} {n : Nat} {f : Nat → Nat} (h : Row w g t kd n f) (k v : Nat) : Row (w.setCell ⟨g, k, none⟩ (.int kd v)) g t kd n (upd f k v) := by
  unfold Row
  rw [← rowOf_set]
  exact heap_setCell_same w g k _ t _ h
theorem Row.other {w : World} {g : Nat} {t : TypeId} {kd : IntKind} {n : Nat} {f : Nat → Nat} (h : Row w g t kd n f) (a : Addr) (v : Value) (ha : g ≠ a.block) : Row (w.setCell a v) g t kd n f := by
  unfold Row
  rw [heap_setCell_other _ _ _ _ ha]
  exact h
theorem Row.ext {w : World} {g : Nat} {t : TypeId} {kd : IntKind} {n : Nat} {f f' : Nat → Nat} (h : Row w g t kd n f) (he : ∀ j, j < n → f j = f' j) : Row w g t kd n f' := by
  unfold Row
  rw [← rowOf_ext he]; exact h
theorem Row.new (w : World) (t : TypeId) (kd : IntKind) (n : Nat) (f : Nat → Nat) : Row (w.alloc (.cells (rowOf kd n f).toArray t)) w.heap.size t kd n f := heap_alloc_new w _
theorem Row.alloc {w : World} {g : Nat} {t : TypeId} {kd : IntKind} {n : Nat} {f : Nat → Nat} (h : Row w g t kd n f) (o : Obj) : Row (w.alloc o) g t kd n f := by
  unfold Row
  rw [Below.heap_alloc _ _ _ h.lt]; exact h
theorem Row.below {w w' : World} {g : Nat} {t : TypeId} {kd : IntKind} {n : Nat} {f : Nat → Nat} (h : Row w g t kd n f) (hb : Below w.heap.size w w') : Row w' g t kd n f := by
  unfold Row
  rw [hb.block g h.lt]; exact h
theorem results_cell {fn : Func} {a : Tmp} {t : TypeId} (h : fn.results = #[.cell a t]) (tmps : Array Value) (P : Program) (w : World) (ad : Addr) (ha : tmps.getD a undef = .pointer (some ad)) (v : Value)
    (hl : (loadVar t ad).run P w = .ok v w) : (results fn tmps).run P w = .ok v w := by
  have ha2 : tmps[a]?.getD undef = .pointer (some ad) := by rw [← Array.getD_eq_getD_getElem?]; exact ha
  unfold results
  rw [h]
  simp [Array.mapM_eq_mapM_toList, ha2, asAddr, hl]
def bytesV (l : List UInt8) : List Value := l.map fun b => .int .u8 (b.toNat : Int)
theorem bytesV_append (l m : List UInt8) : bytesV (l ++ m) = bytesV l ++ bytesV m := by simp [bytesV]
theorem bytesV_length (l : List UInt8) : (bytesV l).length = l.length := by simp [bytesV]
section
variable {P : Program} {ops : Array Oper} {Q : Exit → Act → World → Prop} {md : Region.Mode} {S : World → Prop} {f : Nat}
def AnyF (P : Program) (md : Region.Mode) (ops : Array Oper) (Q : Exit → Act → World → Prop) (S : World → Prop) (f : Nat) : Nat → Array Bool → Act → World → Prop
  | 0, listed, a, w => Region.ready md ops listed = [] ∧ Q .normal a w
  | n + 1, listed, a, w => (Region.ready md ops listed = [] → Q .normal a w) ∧
    ∀ i ∈ Region.ready md ops listed, wpOp P ops Q i (fun a' w' => (i ≠ f → S w' ∧ AnyF P md ops Q S f n (listed.setIfInBounds i true) a' w') ∧ (i = f → wpAny P md ops Q n (listed.setIfInBounds i true) a' w')) a w
theorem any_of_F : ∀ (n : Nat) (listed : Array Bool) (a : Act) (w : World), AnyF P md ops Q S f n listed a w → wpAny P md ops Q n listed a w
  | 0, _, _, _, h => h
  | n + 1, _, _, _, h => ⟨h.1, fun i hi => wpOp_mono (fun a' w' h' => (by by_cases e : i = f; exact h'.2 e; exact any_of_F n _ a' w' (h'.1 e).2)) (h.2 i hi)⟩
theorem AnyF.first {i : Nat} {oi : Oper} {v : Value} (hi : ops[i]? = some oi) (hsel : ∀ (j : Nat) (o : Oper) cs b, ops[j]? = some o → o.op ≠ .select cs b)
    (hQ : ∀ c a w, Q (.panic c) (a.put oi.dst v) w → Q (.panic c) a w) (hif : i ≠ f) (hw : ∀ o, ops[f]? = some o → ∃ e ∈ o.after, Region.binds md e = true ∧ e.on = i) :
    ∀ (n : Nat) (listed : Array Bool) (a : Act) (w : World),
      (∀ j oj, ops[j]? = some oj → j ≠ i → listed.getD j true = false → (∀ e ∈ oj.after, Region.binds md e = true → e.on ≠ i) → oi.apart ops oj = true) →
      i ∈ Region.ready md ops listed → YieldsIf P ops S oi v a → S w → AnyF P md ops Q S f n (listed.setIfInBounds i true) (a.put oi.dst v) w → AnyF P md ops Q S f (n + 1) listed a w := by
  intro n
  induction n with
  | zero =>
    intro listed a w _ hr hy hS H
    refine ⟨fun h => (by rw [h] at hr; cases hr), fun j hj => ?_⟩
    by_cases hji : j = i
    · subst hji; exact hy.wpOp hi hS ⟨fun _ => ⟨hS, H⟩, fun e => absurd e hif⟩
    · have := ready_mono hj hji
      rw [H.1] at this
      cases this
  | succ n ih =>
    intro listed a w hfree hr hy hS H
    refine ⟨fun h => (by rw [h] at hr; cases hr), fun j hj => ?_⟩
    by_cases hji : j = i
    · subst hji; exact hy.wpOp hi hS ⟨fun _ => ⟨hS, H⟩, fun e => absurd e hif⟩
    · have h1 := H.2 j (ready_mono hj hji)
      obtain ⟨hjun, oj, hoj, hall⟩ := mem_ready.1 hj
      have hnot : ∀ e ∈ oj.after, Region.binds md e = true → e.on ≠ i := fun e he hb heq => by
        have h1 := hall e he hb
        have h0 := (mem_ready.1 hr).1
        rw [heq] at h1
        rcases Nat.lt_or_ge i listed.size with h' | h'
        · simp [h'] at h0 h1; rw [h0] at h1; cases h1
        · simp [Array.getElem?_eq_none h'] at h1
      have hjf : j ≠ f := by
        intro e
        subst e
        obtain ⟨e, he, hb, hon⟩ := hw oj hoj
        exact hnot e he hb hon
      have h2 := wpOp_putIf hoj (hfree j oj hoj hji hjun hnot) (fun cs b => hsel i oi cs b hi) (fun cs b => hsel j oj cs b hoj) hQ hy h1
      have hfree' : ∀ k ok, ops[k]? = some ok → k ≠ i → (listed.setIfInBounds j true).getD k true = false →
          (∀ e ∈ ok.after, Region.binds md e = true → e.on ≠ i) → oi.apart ops ok = true := fun k ok hk hki hun hno => by
        refine hfree k ok hk hki ?_ hno
        by_cases hjk : j = k
        · subst hjk; exact hjun
        · rw [getD_set_ne true hjk] at hun; exact hun
      refine wpOp_mono (fun a' w' h3 => ⟨fun _ => ⟨(h3.2.1 hjf).1, ih (listed.setIfInBounds j true) a' w' hfree' (ready_mono hr (Ne.symm hji)) h3.1 (h3.2.1 hjf).1 ?_⟩, fun e => absurd e hjf⟩) h2
      rw [Array.setIfInBounds_comm _ _ hji]
      exact (h3.2.1 hjf).2
variable {n : Nat} {listed : Array Bool} {a : Act} {w w2 : World} {i : Nat} {rs : List Nat}
theorem AnyF.take (i : Nat) (d : Option Tmp) (opr : Op) (v : Value) (ho : (ops[i]?).map (fun o => (o.dst, o.op, o.guard)) = some (d, opr, none)) (hs : Region.noSelect ops = true) (hf : Region.free md ops listed i = true) (hr : (Region.ready md ops listed).contains i = true)
    (hQ : ∀ c a w, Q (.panic c) (a.put d v) w → Q (.panic c) a w) (hif : (i == f) = false) (hwt : Region.waitsFor md ops f i = true) (hy : ∀ (o : Oper), o.op = opr → ∀ w, S w → (execOp a.eval o).run P w = .ok (.value v) w) (hS : S w)
    (h : AnyF P md ops Q S f n (listed.setIfInBounds i true) (a.put d v) w) : AnyF P md ops Q S f (n + 1) listed a w := by
  cases hq : ops[i]? with
  | none => simp [hq] at ho
  | some o =>
    simp [hq] at ho
    obtain ⟨rfl, rfl, hg⟩ := ho
    refine AnyF.first hq (Region.noSelect_spec hs) hQ (by simpa using hif) ?_ n listed a w (Region.free_spec hq hf) (by simpa using hr) (Or.inl ⟨by simp [Region.wanted, hg], hy o rfl⟩) hS h
    intro o2 ho2
    obtain ⟨oj, h1, e, h2, h3, h4⟩ := Region.waitsFor_spec hwt
    rw [ho2] at h1
    cases h1
    exact ⟨e, h2, h3, h4⟩
def ReadyF (P : Program) (md : Region.Mode) (ops : Array Oper) (Q : Exit → Act → World → Prop) (S : World → Prop) (f n : Nat) (listed : Array Bool) (a : Act) (w : World) (rs : List Nat) : Prop :=
  ∀ i ∈ rs, wpOp P ops Q i (fun a' w' => (i ≠ f → S w' ∧ AnyF P md ops Q S f n (listed.setIfInBounds i true) a' w') ∧ (i = f → wpAny P md ops Q n (listed.setIfInBounds i true) a' w')) a w
theorem AnyF.ready (hr : Region.ready md ops listed = rs) (hne : rs ≠ []) (h : ReadyF P md ops Q S f n listed a w rs) : AnyF P md ops Q S f (n + 1) listed a w :=
  ⟨fun h0 => absurd (hr ▸ h0) hne, hr ▸ h⟩
theorem AnyF.done (hr : Region.ready md ops listed = []) (h : Q .normal a w) : ∀ n, AnyF P md ops Q S f n listed a w
  | 0 => ⟨hr, h⟩
  | _ + 1 => ⟨fun _ => h, by rw [hr]; simp⟩
theorem ReadyF.nil : ReadyF P md ops Q S f n listed a w [] := fun _ h => by cases h
theorem ReadyF.cons {o : Oper} (ho : ops[i]? = some o) (hg : o.guard = none)
    (h : ∀ K : Act → World → Prop, (∀ a' w', (i ≠ f → S w' ∧ AnyF P md ops Q S f n (listed.setIfInBounds i true) a' w') ∧ (i = f → wpAny P md ops Q n (listed.setIfInBounds i true) a' w') → K a' w') → Oper.wp P o a w K Q) (hs : ReadyF P md ops Q S f n listed a w rs) : ReadyF P md ops Q S f n listed a w (i :: rs) := fun j hj => by
  rcases List.mem_cons.1 hj with rfl | hj
  · refine wpOp_step ho (fun K hK => ?_)
    rw [if_pos (by simp [Region.wanted, hg])]
    exact h K hK
  · exact hs j hj
theorem ReadyF.op (d : Option Tmp) (opr : Op) (ho : (ops[i]?).map (fun o => (o.dst, o.op, o.guard)) = some (d, opr, none)) (v : Value)
    (hrun : ∀ o : Oper, o.op = opr → (execOp a.eval o).run P w = .ok (.value v) w2) (hS : S w2) (h : AnyF P md ops Q S f n (listed.setIfInBounds i true) (a.put d v) w2)
    (hs : ReadyF P md ops Q S f n listed a w rs) (hif : i ≠ f := by decide) : ReadyF P md ops Q S f n listed a w (i :: rs) := by
  cases hq : ops[i]? with
  | none => simp [hq] at ho
  | some o =>
    simp [hq] at ho
    obtain ⟨rfl, rfl, hg⟩ := ho
    exact ReadyF.cons hq hg (fun K hK => by unfold Oper.wp; rw [hrun o rfl]; exact hK _ _ ⟨fun _ => ⟨hS, h⟩, fun e => absurd e hif⟩) hs
theorem ReadyF.last (opr : Op) (ho : (ops[f]?).map (fun o => (o.dst, o.op, o.guard)) = some (none, opr, none))
    (hrun : ∀ o : Oper, o.op = opr → (execOp a.eval o).run P w = .ok .skip w2) (h : wpAny P md ops Q n (listed.setIfInBounds f true) a w2)
    (hs : ReadyF P md ops Q S f n listed a w rs) : ReadyF P md ops Q S f n listed a w (f :: rs) := by
  cases hq : ops[f]? with
  | none => simp [hq] at ho
  | some o =>
    simp [hq] at ho
    obtain ⟨hd, rfl, hg⟩ := ho
    refine ReadyF.cons hq hg (fun K hK => ?_) hs
    unfold Oper.wp
    rw [hrun o rfl]
    have : a.put o.dst undef = a := by rw [hd]; rfl
    have h2 : K a w2 := hK _ _ ⟨fun e => absurd rfl e, fun _ => h⟩
    rw [← this] at h2
    exact h2
theorem ReadyF.call (d : Option Tmp) (g : FuncId) (args : Array Operand) (tys : Array TypeId) (ho : (ops[i]?).map (fun o => (o.dst, o.op, o.guard)) = some (d, .call { callee := .value (.func g), args := args, argTypes := tys }, none))
    (avs : Array Value) (has : args.map a.eval = avs) (eg : ∀ args w, (callFunc g args).run P w = .ok (.enter g args) w) (R : Ending → World → Prop) (hc : Calls P g avs w R)
    (hK : ∀ v w', R (.returned v) w' → S w' ∧ AnyF P md ops Q S f n (listed.setIfInBounds i true) (a.put d v) w') (hnp : ∀ c w', ¬ R (.panicked c) w') (hno : ∀ w', ¬ R .outgrown w')
    (hs : ReadyF P md ops Q S f n listed a w rs) (hif : i ≠ f := by decide) : ReadyF P md ops Q S f n listed a w (i :: rs) := by
  cases hq : ops[i]? with
  | none => simp [hq] at ho
  | some o =>
    simp [hq] at ho
    obtain ⟨rfl, hop, hg⟩ := ho
    refine ReadyF.cons hq hg (fun K hK2 => ?_) hs
    have hev : a.eval (.func g) = .func (.func g) #[] #[] := rfl
    have hres : (resolve a.eval { callee := .value (.func g), args := args, argTypes := tys } o.type).run P w = .ok { target := .fn (.func g) #[], args := avs } w := by
      simp [resolve, hev, has, Deferred.ofValue]
    have hx : (execOp a.eval o).run P w = .ok (.enter g avs) w := by
      unfold execOp
      simp only [hop, Sem.run_bind, hres, Result.andThen_ok, invoke]
      simp [eg]
    unfold Oper.wp
    rw [hx]
    refine hc.mono ?_
    intro e w' hr
    cases e with
    | returned v => exact hK2 _ _ ⟨fun _ => hK v w' hr, fun e => absurd e hif⟩
    | panicked c => exact (hnp c w' hr).elim
    | outgrown => exact (hno w' hr).elim
end

section
variable {P : Program} {ops : Array Oper} {Q : Exit → Act → World → Prop} {md : Region.Mode} {S : World → Prop} {f n : Nat} {listed : Array Bool} {a : Act} {w w2 : World} {rs : List Nat}
theorem AnyF.takeG (hfn : ops[f]? = none) (i : Nat) (d : Option Tmp) (opr : Op) (gd : Option (Nat × Bool)) (v : Value) (ho : (ops[i]?).map (fun o => (o.dst, o.op, o.guard)) = some (d, opr, gd)) (hs : Region.noSelect ops = true) (hf : Region.free md ops listed i = true) (hr : (Region.ready md ops listed).contains i = true)
    (hQ : ∀ c a w, Q (.panic c) (a.put d v) w → Q (.panic c) a w) (hif : (i == f) = false) (hw : ∀ o, ops[i]? = some o → Region.wanted o (yielded ops a.tmps) = true) (hy : ∀ (o : Oper), o.op = opr → ∀ w, S w → (execOp a.eval o).run P w = .ok (.value v) w) (hS : S w)
    (h : AnyF P md ops Q S f n (listed.setIfInBounds i true) (a.put d v) w) : AnyF P md ops Q S f (n + 1) listed a w := by
  cases hq : ops[i]? with
  | none => simp [hq] at ho
  | some o =>
    have hw2 := hw o hq
    simp [hq] at ho
    obtain ⟨rfl, rfl, hg⟩ := ho
    exact AnyF.first hq (Region.noSelect_spec hs) hQ (by simpa using hif) (fun o2 ho2 => by rw [hfn] at ho2; cases ho2) n listed a w (Region.free_spec hq hf) (by simpa using hr) (Or.inl ⟨hw2, hy o rfl⟩) hS h
end

section
variable {P : Program} {ops : Array Oper} {Q : Exit → Act → World → Prop} {md : Region.Mode} {S : World → Prop} {f n : Nat} {listed : Array Bool} {a : Act} {w w2 : World} {rs : List Nat}
theorem ReadyF.op0 {i : Nat} (opr : Op) (ho : (ops[i]?).map (fun o => (o.dst, o.op, o.guard)) = some (none, opr, none))
    (hrun : ∀ o : Oper, o.op = opr → (execOp a.eval o).run P w = .ok .skip w2) (hS : S w2) (h : AnyF P md ops Q S f n (listed.setIfInBounds i true) a w2)
    (hs : ReadyF P md ops Q S f n listed a w rs) (hif : i ≠ f := by decide) : ReadyF P md ops Q S f n listed a w (i :: rs) := by
  cases hq : ops[i]? with
  | none => simp [hq] at ho
  | some o =>
    simp [hq] at ho
    obtain ⟨hd, rfl, hg⟩ := ho
    refine ReadyF.cons hq hg (fun K hK => ?_) hs
    unfold Oper.wp
    rw [hrun o rfl]
    have : a.put o.dst undef = a := by rw [hd]; rfl
    have h2 : K a w2 := hK _ _ ⟨fun _ => ⟨hS, h⟩, fun e => absurd e hif⟩
    rw [← this] at h2
    exact h2
end
def Nrm (K : Act → World → Prop) : Exit → Act → World → Prop
  | .normal, a, w => K a w
  | _, _, _ => False
theorem nrm_intro {K : Act → World → Prop} {a : Act} {w : World} (h : K a w) : Nrm K .normal a w := h
theorem wpIn_nrm {F : Fence} {n : Nat} {P : Program} {c : Code} {Q : Exit → Act → World → Prop} {a : Act} {w : World} (h : c.wpIn F n P (Nrm (fun a w => Q .normal a w)) a w) : c.wpIn F n P Q a w :=
  wpIn_mono h (fun e a w h => by cases e <;> first | exact h | exact h.elim)
theorem wp_nrm {P : Program} {c : Code} {Q : Exit → Act → World → Prop} {a : Act} {w : World} (h : c.wp P (Nrm (fun a w => Q .normal a w)) a w) : c.wp P Q a w :=
  (wpIn_wide (n := 0)).1 (wpIn_nrm ((wpIn_wide (n := 0)).2 h))
theorem exec_assign {P : Program} {ρ : Operand → Value} {o : Oper} (x : Operand) (ho : o.op = .assign x) (v : Value) (hx : ρ x = v) (w : World) : (execOp ρ o).run P w = .ok (.value v) w := by
  subst hx; unfold execOp; simp [ho]
open Go.RowKit
set_option linter.unusedVariables false
set_option linter.unusedSimpArgs false
section
variable {P : Program} {ops : Array Oper} {Q : Exit → Act → World → Prop} {md : Region.Mode} {S : World → Prop} {f n : Nat} {listed : Array Bool} {a : Act} {w w2 : World} {rs : List Nat}
theorem F_of_any : ∀ (n : Nat) (listed : Array Bool) (a : Act) (w : World), wpAny P md ops Q n listed a w → AnyF P md ops Q (fun _ => True) f n listed a w
  | 0, _, _, _, h => h
  | n + 1, _, _, _, h => ⟨h.1, fun i hi => wpOp_mono (fun a' w' h' => ⟨fun _ => ⟨trivial, F_of_any n _ a' w' h'⟩, fun _ => h'⟩) (h.2 i hi)⟩
theorem AnyF.first0 {i g : Nat} {oi : Oper} {v : Value} (hi : ops[i]? = some oi) (hsel : ∀ (j : Nat) (o : Oper) cs b, ops[j]? = some o → o.op ≠ .select cs b)
    (hQ : ∀ c a w, Q (.panic c) (a.put oi.dst v) w → Q (.panic c) a w) (hif : i ≠ f) (hg : ops[g]? = none) :
    ∀ (n : Nat) (listed : Array Bool) (a : Act) (w : World),
      (∀ j oj, ops[j]? = some oj → j ≠ i → listed.getD j true = false → (∀ e ∈ oj.after, Region.binds md e = true → e.on ≠ i) → oi.apart ops oj = true) →
      i ∈ Region.ready md ops listed → YieldsIf P ops (fun _ => True) oi v a → S w → AnyF P md ops Q S f n (listed.setIfInBounds i true) (a.put oi.dst v) w → AnyF P md ops Q S f (n + 1) listed a w := by
  intro n
  induction n with
  | zero =>
    intro listed a w _ hr hy hS H
    refine ⟨fun h => (by rw [h] at hr; cases hr), fun j hj => ?_⟩
    by_cases hji : j = i
    · subst hji; exact hy.wpOp hi trivial ⟨fun _ => ⟨hS, H⟩, fun e => absurd e hif⟩
    · have := ready_mono hj hji
      rw [H.1] at this
      cases this
  | succ n ih =>
    intro listed a w hfree hr hy hS H
    refine ⟨fun h => (by rw [h] at hr; cases hr), fun j hj => ?_⟩
    by_cases hji : j = i
    · subst hji; exact hy.wpOp hi trivial ⟨fun _ => ⟨hS, H⟩, fun e => absurd e hif⟩
    · have h1 := H.2 j (ready_mono hj hji)
      obtain ⟨hjun, oj, hoj, hall⟩ := mem_ready.1 hj
      have hnot : ∀ e ∈ oj.after, Region.binds md e = true → e.on ≠ i := fun e he hb heq => by
        have h1 := hall e he hb
        have h0 := (mem_ready.1 hr).1
        rw [heq] at h1
        rcases Nat.lt_or_ge i listed.size with h' | h'
        · simp [h'] at h0 h1; rw [h0] at h1; cases h1
        · simp [Array.getElem?_eq_none h'] at h1
      have h2 := wpOp_putIf hoj (hfree j oj hoj hji hjun hnot) (fun cs b => hsel i oi cs b hi) (fun cs b => hsel j oj cs b hoj) hQ hy h1
      have hfree' : ∀ k ok, ops[k]? = some ok → k ≠ i → (listed.setIfInBounds j true).getD k true = false →
          (∀ e ∈ ok.after, Region.binds md e = true → e.on ≠ i) → oi.apart ops ok = true := fun k ok hk hki hun hno => by
        refine hfree k ok hk hki ?_ hno
        by_cases hjk : j = k
        · subst hjk; exact hjun
        · rw [getD_set_ne true hjk] at hun; exact hun
      have hig : i ≠ g := fun e => by rw [← e, hi] at hg; cases hg
      refine wpOp_mono (fun a' w' h3 => ⟨fun hjf => ⟨(h3.2.1 hjf).1, ih (listed.setIfInBounds j true) a' w' hfree' (ready_mono hr (Ne.symm hji)) h3.1 (h3.2.1 hjf).1 ?_⟩, fun hjf => ?_⟩) h2
      · rw [Array.setIfInBounds_comm _ _ hji]
        exact (h3.2.1 hjf).2
      · refine any_of_F (S := fun _ => True) (f := g) _ _ _ _ (AnyF.first hi hsel hQ hig (fun o ho => by rw [hg] at ho; cases ho) n (listed.setIfInBounds j true) a' w' hfree' (ready_mono hr (Ne.symm hji)) h3.1 trivial (F_of_any _ _ _ _ ?_))
        rw [Array.setIfInBounds_comm _ _ hji]
        exact h3.2.2 hjf
theorem AnyF.take0 {n : Nat} {listed : Array Bool} {a : Act} {w : World} (i g : Nat) (d : Option Tmp) (opr : Op) (v : Value) (ho : (ops[i]?).map (fun o => (o.dst, o.op, o.guard)) = some (d, opr, none)) (hs : Region.noSelect ops = true) (hf : Region.free md ops listed i = true) (hr : (Region.ready md ops listed).contains i = true)
    (hQ : ∀ c a w, Q (.panic c) (a.put d v) w → Q (.panic c) a w) (hif : (i == f) = false) (hg : ops[g]? = none) (hy : ∀ (o : Oper), o.op = opr → ∀ w, (execOp a.eval o).run P w = .ok (.value v) w) (hS : S w)
    (h : AnyF P md ops Q S f n (listed.setIfInBounds i true) (a.put d v) w) : AnyF P md ops Q S f (n + 1) listed a w := by
  cases hq : ops[i]? with
  | none => simp [hq] at ho
  | some o =>
    simp [hq] at ho
    obtain ⟨rfl, rfl, hgd⟩ := ho
    exact AnyF.first0 hq (Region.noSelect_spec hs) hQ (by simpa using hif) hg n listed a w (Region.free_spec hq hf) (by simpa using hr) (Or.inl ⟨by simp [Region.wanted, hgd], fun w _ => hy o rfl w⟩) hS h
theorem AnyF.skipG (hfn : ops[f]? = none) (i : Nat) (d : Option Tmp) (opr : Op) (gd : Option (Nat × Bool)) (ho : (ops[i]?).map (fun o => (o.dst, o.op, o.guard)) = some (d, opr, gd)) (hs : Region.noSelect ops = true) (hf : Region.free md ops listed i = true) (hr : (Region.ready md ops listed).contains i = true)
    (hQ : ∀ c a w, Q (.panic c) (a.put d undef) w → Q (.panic c) a w) (hif : (i == f) = false) (hw : ∀ o, ops[i]? = some o → Region.wanted o (yielded ops a.tmps) = false) (hS : S w)
    (h : AnyF P md ops Q S f n (listed.setIfInBounds i true) (a.put d undef) w) : AnyF P md ops Q S f (n + 1) listed a w := by
  cases hq : ops[i]? with
  | none => simp [hq] at ho
  | some o =>
    have hw2 := hw o hq
    simp [hq] at ho
    obtain ⟨rfl, rfl, hg⟩ := ho
    exact AnyF.first hq (Region.noSelect_spec hs) hQ (by simpa using hif) (fun o2 ho2 => by rw [hfn] at ho2; cases ho2) n listed a w (Region.free_spec hq hf) (by simpa using hr) (Or.inr ⟨hw2, rfl⟩) hS h
theorem ReadyF.consG {i : Nat} {o : Oper} (ho : ops[i]? = some o) (hw : Region.wanted o (yielded ops a.tmps) = true)
    (h : ∀ K : Act → World → Prop, (∀ a' w', (i ≠ f → S w' ∧ AnyF P md ops Q S f n (listed.setIfInBounds i true) a' w') ∧ (i = f → wpAny P md ops Q n (listed.setIfInBounds i true) a' w') → K a' w') → Oper.wp P o a w K Q) (hs : ReadyF P md ops Q S f n listed a w rs) : ReadyF P md ops Q S f n listed a w (i :: rs) := fun j hj => by
  rcases List.mem_cons.1 hj with rfl | hj
  · refine wpOp_step ho (fun K hK => ?_)
    rw [if_pos hw]
    exact h K hK
  · exact hs j hj
theorem ReadyF.callG {i : Nat} (d : Option Tmp) (g : FuncId) (args : Array Operand) (tys : Array TypeId) (gd : Option (Nat × Bool)) (ho : (ops[i]?).map (fun o => (o.dst, o.op, o.guard)) = some (d, .call { callee := .value (.func g), args := args, argTypes := tys }, gd)) (hw : ∀ o, ops[i]? = some o → Region.wanted o (yielded ops a.tmps) = true)
    (avs : Array Value) (has : args.map a.eval = avs) (eg : ∀ args w, (callFunc g args).run P w = .ok (.enter g args) w) (R : Ending → World → Prop) (hc : Calls P g avs w R)
    (hK : ∀ v w', R (.returned v) w' → S w' ∧ AnyF P md ops Q S f n (listed.setIfInBounds i true) (a.put d v) w') (hnp : ∀ c w', ¬ R (.panicked c) w') (hno : ∀ w', ¬ R .outgrown w')
    (hs : ReadyF P md ops Q S f n listed a w rs) (hif : i ≠ f := by decide) : ReadyF P md ops Q S f n listed a w (i :: rs) := by
  cases hq : ops[i]? with
  | none => simp [hq] at ho
  | some o =>
    have hw2 := hw o hq
    simp [hq] at ho
    obtain ⟨rfl, hop, hg⟩ := ho
    refine ReadyF.consG hq hw2 (fun K hK2 => ?_) hs
    have hev : a.eval (.func g) = .func (.func g) #[] #[] := rfl
    have hres : (resolve a.eval { callee := .value (.func g), args := args, argTypes := tys } o.type).run P w = .ok { target := .fn (.func g) #[], args := avs } w := by
      simp [resolve, hev, has, Deferred.ofValue]
    have hx : (execOp a.eval o).run P w = .ok (.enter g avs) w := by
      unfold execOp
      simp only [hop, Sem.run_bind, hres, Result.andThen_ok, invoke]
      simp [eg]
    unfold Oper.wp
    rw [hx]
    refine hc.mono ?_
    intro e w' hr
    cases e with
    | returned v => exact hK2 _ _ ⟨fun _ => hK v w' hr, fun e => absurd e hif⟩
    | panicked c => exact (hnp c w' hr).elim
    | outgrown => exact (hno w' hr).elim
theorem any_doneF (hr : Region.ready md ops listed = []) (h : Q .normal a w) (n : Nat) : wpAny P md ops Q n listed a w := any_of_F (S := fun _ => True) (f := 0) _ _ _ _ (AnyF.done hr h n)
theorem tkG (i : Nat) (d : Option Tmp) (opr : Op) (gd : Option (Nat × Bool)) (v : Value) (hy : ∀ (o : Oper), o.op = opr → ∀ w, S w → (execOp a.eval o).run P w = .ok (.value v) w) (hS : S w) (h : AnyF P md ops Q S f n (listed.setIfInBounds i true) (a.put d v) w)
    (hfn : ops[f]? = none := by rfl) (ho : (ops[i]?).map (fun o => (o.dst, o.op, o.guard)) = some (d, opr, gd) := by rfl) (hs : Region.noSelect ops = true := by kernel_rfl) (hf : Region.free md ops listed i = true := by kernel_rfl) (hr : (Region.ready md ops listed).contains i = true := by kernel_rfl)
    (hQ : ∀ c a w, Q (.panic c) (a.put d v) w → Q (.panic c) a w := by exact fun _ _ _ h => h) (hif : (i == f) = false := by rfl) (hw : ∀ o, ops[i]? = some o → Region.wanted o (yielded ops a.tmps) = true := by exact fun o h => by obtain rfl := Option.some.inj h; rfl) : AnyF P md ops Q S f (n + 1) listed a w :=
  AnyF.takeG hfn i d opr gd v ho hs hf hr hQ hif hw hy hS h
theorem tkL (i : Nat) (d : Option Tmp) (opr : Op) (v : Value) (hy : ∀ (o : Oper), o.op = opr → ∀ w, S w → (execOp a.eval o).run P w = .ok (.value v) w) (hS : S w) (h : AnyF P md ops Q S f n (listed.setIfInBounds i true) (a.put d v) w)
    (ho : (ops[i]?).map (fun o => (o.dst, o.op, o.guard)) = some (d, opr, none) := by rfl) (hs : Region.noSelect ops = true := by kernel_rfl) (hf : Region.free md ops listed i = true := by kernel_rfl) (hr : (Region.ready md ops listed).contains i = true := by kernel_rfl)
    (hQ : ∀ c a w, Q (.panic c) (a.put d v) w → Q (.panic c) a w := by exact fun _ _ _ h => h) (hif : (i == f) = false := by rfl) (hwt : Region.waitsFor md ops f i = true := by kernel_rfl) : AnyF P md ops Q S f (n + 1) listed a w :=
  AnyF.take i d opr v ho hs hf hr hQ hif hwt hy hS h
theorem tk0 (i : Nat) (d : Option Tmp) (opr : Op) (v : Value) (hy : ∀ (o : Oper), o.op = opr → ∀ w, (execOp a.eval o).run P w = .ok (.value v) w) (hS : S w) (h : AnyF P md ops Q S f n (listed.setIfInBounds i true) (a.put d v) w)
    (ho : (ops[i]?).map (fun o => (o.dst, o.op, o.guard)) = some (d, opr, none) := by rfl) (hs : Region.noSelect ops = true := by kernel_rfl) (hf : Region.free md ops listed i = true := by kernel_rfl) (hr : (Region.ready md ops listed).contains i = true := by kernel_rfl)
    (hQ : ∀ c a w, Q (.panic c) (a.put d v) w → Q (.panic c) a w := by exact fun _ _ _ h => h) (hif : (i == f) = false := by rfl) (hg : ops[1000]? = none := by kernel_rfl) : AnyF P md ops Q S f (n + 1) listed a w :=
  AnyF.take0 i 1000 d opr v ho hs hf hr hQ hif hg hy hS h
theorem skG (i : Nat) (d : Option Tmp) (opr : Op) (gd : Option (Nat × Bool)) (hS : S w) (h : AnyF P md ops Q S f n (listed.setIfInBounds i true) (a.put d undef) w)
    (hfn : ops[f]? = none := by rfl) (ho : (ops[i]?).map (fun o => (o.dst, o.op, o.guard)) = some (d, opr, gd) := by rfl) (hs : Region.noSelect ops = true := by kernel_rfl) (hf : Region.free md ops listed i = true := by kernel_rfl) (hr : (Region.ready md ops listed).contains i = true := by kernel_rfl)
    (hQ : ∀ c a w, Q (.panic c) (a.put d undef) w → Q (.panic c) a w := by exact fun _ _ _ h => h) (hif : (i == f) = false := by rfl) (hw : ∀ o, ops[i]? = some o → Region.wanted o (yielded ops a.tmps) = false := by exact fun o h => by obtain rfl := Option.some.inj h; rfl) : AnyF P md ops Q S f (n + 1) listed a w :=
  AnyF.skipG hfn i d opr gd ho hs hf hr hQ hif hw hS h
theorem rclG {i : Nat} (d : Option Tmp) (g : FuncId) (args : Array Operand) (tys : Array TypeId) (gd : Option (Nat × Bool)) (avs : Array Value) (eg : ∀ args w, (callFunc g args).run P w = .ok (.enter g args) w) (R : Ending → World → Prop) (hc : Calls P g avs w R)
    (hK : ∀ v w', R (.returned v) w' → S w' ∧ AnyF P md ops Q S f n (listed.setIfInBounds i true) (a.put d v) w') (hs : ReadyF P md ops Q S f n listed a w rs)
    (ho : (ops[i]?).map (fun o => (o.dst, o.op, o.guard)) = some (d, .call { callee := .value (.func g), args := args, argTypes := tys }, gd) := by rfl) (hw : ∀ o, ops[i]? = some o → Region.wanted o (yielded ops a.tmps) = true := by exact fun o h => by obtain rfl := Option.some.inj h; rfl) (has : args.map a.eval = avs := by simp [Act.eval])
    (hnp : ∀ c w', ¬ R (.panicked c) w' := by exact fun c w' h => by cases h.1) (hno : ∀ w', ¬ R .outgrown w' := by exact fun w' h => by cases h.1) (hif : i ≠ f := by decide) : ReadyF P md ops Q S f n listed a w (i :: rs) :=
  ReadyF.callG d g args tys gd ho hw avs has eg R hc hK hnp hno hs hif
end
end Go.Proofs.Ytglipljilcdboaa.R
/- Regions whose order is drawn: short words. No condition but what each names. -/
namespace Go.Proofs.Ytglipljilcdboaa.R
set_option linter.unusedSimpArgs false
open Go.RowKit
set_option linter.unusedVariables false
section
variable {P : Program} {ops : Array Oper} {Q : Exit → Act → World → Prop} {md : Region.Mode} {S : World → Prop} {f n : Nat} {listed : Array Bool} {a : Act} {w w2 : World} {rs : List Nat}
theorem rdy (rs : List Nat) (h : ReadyF P md ops Q S f n listed a w rs) (hr : Region.ready md ops listed = rs := by kernel_rfl) (hne : rs ≠ [] := by simp) : AnyF P md ops Q S f (n + 1) listed a w :=
  AnyF.ready hr hne h
theorem ral {i : Nat} (d : Tmp) (ty : TypeId) {cs : Array Value} (hz : ∀ w, (zeroValue ty).run P w = .ok (.agg cs) w) (hS : S (w.alloc (.cells cs ty))) (h : AnyF P md ops Q S f n (listed.setIfInBounds i true) (a.put (some d) (.pointer (some ⟨w.heap.size, 0, none⟩))) (w.alloc (.cells cs ty)))
    (hs : ReadyF P md ops Q S f n listed a w rs) (ho : (ops[i]?).map (fun o => (o.dst, o.op, o.guard)) = some (some d, .alloc ty, none) := by rfl) (hif : i ≠ f := by decide) : ReadyF P md ops Q S f n listed a w (i :: rs) :=
  ReadyF.op (some d) (.alloc ty) ho (.pointer (some ⟨w.heap.size, 0, none⟩)) (fun o ho => exec_alloc_agg _ ty ho _ (hz _)) hS h hs hif
theorem rcl {i : Nat} (d : Option Tmp) (g : FuncId) (args : Array Operand) (tys : Array TypeId) (avs : Array Value) (eg : ∀ args w, (callFunc g args).run P w = .ok (.enter g args) w) (R : Ending → World → Prop) (hc : Calls P g avs w R)
    (hK : ∀ v w', R (.returned v) w' → S w' ∧ AnyF P md ops Q S f n (listed.setIfInBounds i true) (a.put d v) w') (hs : ReadyF P md ops Q S f n listed a w rs)
    (ho : (ops[i]?).map (fun o => (o.dst, o.op, o.guard)) = some (d, .call { callee := .value (.func g), args := args, argTypes := tys }, none) := by rfl) (has : args.map a.eval = avs := by simp [Act.eval])
    (hnp : ∀ c w', ¬ R (.panicked c) w' := by exact fun c w' h => by cases h.1) (hno : ∀ w', ¬ R .outgrown w' := by exact fun w' h => by cases h.1) (hif : i ≠ f := by decide) : ReadyF P md ops Q S f n listed a w (i :: rs) :=
  ReadyF.call d g args tys ho avs has eg R hc hK hnp hno hs hif
end
section
variable {P : Program} {ops : Array Oper} {Q : Exit → Act → World → Prop} {md : Region.Mode} {S : World → Prop} {f : Nat}
/-- What several orders come to, proved once. -/
theorem F_have {n0 : Nat} {l0 : Array Bool} {a0 : Act} {w0 : World} (n : Nat) (l : Array Bool) (R : Act → World → Prop) (hJ : ∀ a w, R a w → AnyF P md ops Q S f n l a w) (h : (∀ a w, R a w → AnyF P md ops Q S f n l a w) → AnyF P md ops Q S f n0 l0 a0 w0) : AnyF P md ops Q S f n0 l0 a0 w0 := h hJ
theorem F_to {n n2 : Nat} {l l2 : Array Bool} {a : Act} {w : World} (hn : n2 = n) (hl : l2 = l) (h : AnyF P md ops Q S f n l a w) : AnyF P md ops Q S f n2 l2 a w := by
  subst hn hl
  exact h
end
theorem wp_cut {P : Program} {c : Code} {Q : Exit → Act → World → Prop} {a : Act} {w : World} (K : Act → World → Prop) (h : c.wp P (Nrm K) a w) (h2 : ∀ a w, K a w → Q .normal a w) : c.wp P Q a w :=
  wp_nrm ((wpIn_wide (n := 0)).1 (wpIn_mono ((wpIn_wide (n := 0)).2 h) (fun e a w h => by cases e <;> first | exact h2 _ _ h | exact h.elim)))
end Go.Proofs.Ytglipljilcdboaa.R
/- How long the bytes of a tree may be. No condition. -/
namespace Go.Proofs.Ytglipljilcdboaa
set_option linter.unusedSimpArgs false
set_option linter.unusedVariables false
theorem strL_le (s : List UInt8) : (strL s).length ≤ 16 + s.length := by
  rw [strL_len]
  have : fillN s.length < 8 := Nat.mod_lt _ (by decide)
  omega
def costB (d : Nd) : Nat := 200 + d.data.length
def costs (l : List Nd) : Nat := (l.map fun c => 300 + c.path.length + c.data.length).sum
theorem costs_cons (c : Nd) (l : List Nd) : costs (c :: l) = 300 + c.path.length + c.data.length + costs l := by simp [costs]
theorem byt_cost : ∀ f, (∀ d r, (bytU f d r).1.length + costs (bytU f d r).2 ≤ costB d + costs r) ∧ (∀ p r, (entU f p r).1.length + costs (entU f p r).2 ≤ costs r)
  | 0 => ⟨fun d r => by rw [bytU]; show 0 + costs r ≤ _; omega, fun p r => by rw [entU]; show 0 + costs r ≤ _; omega⟩
  | f + 1 => by
    obtain ⟨h1, h2⟩ := byt_cost f
    constructor
    · intro d r
      have hd := strL_le d.data
      have he := h2 d.path r
      unfold costB
      rw [bytU_succ]
      split
      · show (strsL [tOpen, tType, tReg, tCont, d.data, tClose]).length + costs r ≤ _
        simp only [strsL_cons, strsL_nil, List.length_append, List.length_nil]
        rw [show (strL tOpen).length = 16 from rfl, show (strL tType).length = 16 from rfl, show (strL tReg).length = 16 from rfl, show (strL tCont).length = 16 from rfl, show (strL tClose).length = 16 from rfl]
        omega
      split
      · show (strsL [tOpen, tType, tReg, tExec, [], tCont, d.data, tClose]).length + costs r ≤ _
        simp only [strsL_cons, strsL_nil, List.length_append, List.length_nil]
        rw [show (strL tOpen).length = 16 from rfl, show (strL tType).length = 16 from rfl, show (strL tReg).length = 16 from rfl, show (strL tExec).length = 24 from rfl, show (strL []).length = 8 from rfl, show (strL tCont).length = 16 from rfl, show (strL tClose).length = 16 from rfl]
        omega
      split
      · show (strsL [tOpen, tType, tSym, tTarg, d.data, tClose]).length + costs r ≤ _
        simp only [strsL_cons, strsL_nil, List.length_append, List.length_nil]
        rw [show (strL tOpen).length = 16 from rfl, show (strL tType).length = 16 from rfl, show (strL tSym).length = 16 from rfl, show (strL tTarg).length = 16 from rfl, show (strL tClose).length = 16 from rfl]
        omega
      · show (strsL [tOpen, tType, tDir] ++ ((entU f d.path r).1 ++ strL tClose)).length + costs (entU f d.path r).2 ≤ _
        simp only [strsL_cons, strsL_nil, List.length_append, List.length_nil]
        rw [show (strL tOpen).length = 16 from rfl, show (strL tType).length = 16 from rfl, show (strL tDir).length = 24 from rfl, show (strL tClose).length = 16 from rfl]
        omega
    · intro p r
      cases r with
      | nil => rw [entU_nil]; exact Nat.le_refl _
      | cons c r =>
        by_cases hn : nameL c.path p = []
        · rw [entU_stop f p c r hn]; show 0 + costs (c :: r) ≤ _; omega
        · rw [entU_cons f p c r hn]
          have a := h1 c r
          have b := h2 p (bytU f c r).2
          have e := strL_le (nameL c.path p)
          have e2 := name_len c.path p
          rw [costs_cons]
          unfold costB at a
          show (strsL [tEntry, tOpen, tName, nameL c.path p, tNode] ++ ((bytU f c r).1 ++ (strL tClose ++ (entU f p (bytU f c r).2).1))).length + costs (entU f p (bytU f c r).2).2 ≤ _
          simp only [strsL_cons, strsL_nil, List.length_append, List.length_nil]
          rw [show (strL tEntry).length = 16 from rfl, show (strL tOpen).length = 16 from rfl, show (strL tName).length = 16 from rfl, show (strL tNode).length = 16 from rfl, show (strL tClose).length = 16 from rfl]
          omega
end Go.Proofs.Ytglipljilcdboaa
