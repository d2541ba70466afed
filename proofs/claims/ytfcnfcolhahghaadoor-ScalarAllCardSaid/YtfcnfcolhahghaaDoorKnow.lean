/- Which numbers lie where: what a walk over blocks of four words knows; and operations under guards in a region that draws its order. No condition. -/
import Derived.Test.YtfcnfcolhahghaaDoorLow
import Derived.Laws.StructEq
import Derived.Laws.Cover2
import Derived.Laws.Tables
namespace Go.Proofs.YtfcnfcolhahghaaDoor
open Go.RowKit Go.Shelf
set_option linter.unusedVariables false
set_option linter.unusedSimpArgs false
section
variable {P : Program} {ops : Array Oper} {Q : Exit → Act → World → Prop} {md : Region.Mode} {S : World → Prop} {f n : Nat} {listed : Array Bool} {a : Act} {w w2 : World} {rs : List Nat}
/-- As AnyF.take, where nothing is last, for an operation whose guard is met. -/
theorem AnyF.takeG (hfn : ops[f]? = none) (i : Nat) (d : Option Tmp) (opr : Op) (gd : Option (Nat × Bool)) (v : Value) (ho : (ops[i]?).map (fun o => (o.dst, o.op, o.guard)) = some (d, opr, gd)) (hs : Region.noSelect ops = true) (hf : Region.free md ops listed i = true) (hr : (Region.ready md ops listed).contains i = true)
    (hQ : ∀ c a w, Q (.panic c) (a.put d v) w → Q (.panic c) a w) (hif : (i == f) = false) (hw : ∀ o, ops[i]? = some o → Region.wanted o (yielded ops a.tmps) = true) (hy : ∀ (o : Oper), o.op = opr → ∀ w, S w → (execOp a.eval o).run P w = .ok (.value v) w) (hS : S w)
    (h : AnyF P md ops Q S f n (listed.setIfInBounds i true) (a.put d v) w) : AnyF P md ops Q S f (n + 1) listed a w := by
  cases hq : ops[i]? with
  | none => simp [hq] at ho
  | some o =>
    have hw2 := hw o hq
    simp [hq] at ho
    obtain ⟨rfl, rfl, hg⟩ := ho
    exact AnyF.first hq (Region.noSelect_spec hs) hQ (by simpa using hif) (fun o2 ho2 => by rw [hfn] at ho2; cases ho2) n listed a w (Region.free_spec hq hf) (by simpa using hr) (Or.inl ⟨hw2, hy o rfl⟩) hS h
theorem ReadyF.consG {i : Nat} {o : Oper} (ho : ops[i]? = some o) (hw : Region.wanted o (yielded ops a.tmps) = true)
    (h : ∀ K : Act → World → Prop, (∀ a' w', (i ≠ f → S w' ∧ AnyF P md ops Q S f n (listed.setIfInBounds i true) a' w') ∧ (i = f → wpAny P md ops Q n (listed.setIfInBounds i true) a' w') → K a' w') → Oper.wp P o a w K Q) (hs : ReadyF P md ops Q S f n listed a w rs) : ReadyF P md ops Q S f n listed a w (i :: rs) := fun j hj => by
  rcases List.mem_cons.1 hj with rfl | hj
  · refine wpOp_step ho (fun K hK => ?_)
    rw [if_pos hw]
    exact h K hK
  · exact hs j hj
theorem ReadyF.callG {i : Nat} (d : Option Tmp) (g : FuncId) (args : Array Operand) (tys : Array TypeId) (gd : Option (Nat × Bool)) (ho : (ops[i]?).map (fun o => (o.dst, o.op, o.guard)) = some (d, .call { callee := .value (.func g), args := args, argTypes := tys }, gd)) (hw : ∀ o, ops[i]? = some o → Region.wanted o (yielded ops a.tmps) = true)
    (avs : Array Value) (has : args.map a.eval = avs) (eg : ∀ args w, (callFunc g args).run P w = .ok (.enter g args) w) (R : Ending → World → Prop) (hc : Calls P g avs w R)
    (hK : ∀ v w', R (.returned v) w' → S w' ∧ AnyF P md ops Q S f n (listed.setIfInBounds i true) (a.put d v) w') (hnp : ∀ c w', ¬ R (.panicked c) w') (hno : ∀ w', ¬ R .outgrown w')
    (hs : ReadyF P md ops Q S f n listed a w rs) (hif : i ≠ f := by decide) : ReadyF P md ops Q S f n listed a w (i :: rs) := by
  cases hq : ops[i]? with
  | none => simp [hq] at ho
  | some o =>
    have hw2 := hw o hq
    simp [hq] at ho
    obtain ⟨rfl, hop, hg⟩ := ho
    refine ReadyF.consG hq hw2 (fun K hK2 => ?_) hs
    have hev : a.eval (.func g) = .func (.func g) #[] #[] := rfl
    have hres : (resolve a.eval { callee := .value (.func g), args := args, argTypes := tys } o.type).run P w = .ok { target := .fn (.func g) #[], args := avs } w := by
      simp [resolve, hev, has, Deferred.ofValue]
    have hx : (execOp a.eval o).run P w = .ok (.enter g avs) w := by
      unfold execOp
      simp only [hop, Sem.run_bind, hres, Result.andThen_ok, invoke]
      simp [eg]
    unfold Oper.wp
    rw [hx]
    refine hc.mono ?_
    intro e w' hr
    cases e with
    | returned v => exact hK2 _ _ ⟨fun _ => hK v w' hr, fun e => absurd e hif⟩
    | panicked c => exact (hnp c w' hr).elim
    | outgrown => exact (hno w' hr).elim
theorem ReadyF.opG {i : Nat} (d : Option Tmp) (opr : Op) (gd : Option (Nat × Bool)) (ho : (ops[i]?).map (fun o => (o.dst, o.op, o.guard)) = some (d, opr, gd)) (hw : ∀ o, ops[i]? = some o → Region.wanted o (yielded ops a.tmps) = true) (v : Value)
    (hrun : ∀ o : Oper, o.op = opr → (execOp a.eval o).run P w = .ok (.value v) w2) (hS : S w2) (h : AnyF P md ops Q S f n (listed.setIfInBounds i true) (a.put d v) w2)
    (hs : ReadyF P md ops Q S f n listed a w rs) (hif : i ≠ f := by decide) : ReadyF P md ops Q S f n listed a w (i :: rs) := by
  cases hq : ops[i]? with
  | none => simp [hq] at ho
  | some o =>
    have hw2 := hw o hq
    simp [hq] at ho
    obtain ⟨rfl, rfl, hg⟩ := ho
    exact ReadyF.consG hq hw2 (fun K hK => by unfold Oper.wp; rw [hrun o rfl]; exact hK _ _ ⟨fun _ => ⟨hS, h⟩, fun e => absurd e hif⟩) hs
end

/-- Since w0 nothing that lay has turned; these blocks hold these rows. -/
def Kn (w0 : World) (l : List (Nat × Array Value)) (w : World) : Prop := Below w0.heap.size w0 w ∧ ∀ p ∈ l, w.heap[p.1]? = some (.cells p.2 24 (0, 0))
theorem Kn.get {w0 w : World} {l : List (Nat × Array Value)} (h : Kn w0 l w) (g : Nat) (A : Array Value) (hm : (g, A) ∈ l) : w.heap[g]? = some (.cells A 24 (0, 0)) := h.2 (g, A) hm
theorem Kn.lt {w0 w : World} {l : List (Nat × Array Value)} (h : Kn w0 l w) (g : Nat) (A : Array Value) (hm : (g, A) ∈ l) : g < w.heap.size := (Array.getElem?_eq_some_iff.1 (h.get g A hm)).1
theorem Kn.below {w0 w w2 : World} {l : List (Nat × Array Value)} (h : Kn w0 l w) (hb : Below w.heap.size w w2) : Kn w0 l w2 :=
  ⟨h.1.trans (hb.mono h.1.size), fun p hp => (hb.block p.1 (Array.getElem?_eq_some_iff.1 (h.2 p hp)).1).trans (h.2 p hp)⟩
theorem Kn.drew {w0 w : World} {l : List (Nat × Array Value)} (h : Kn w0 l w) : Kn w0 l w.drew := ⟨h.1.drew, h.2⟩
theorem Kn.alloc {w0 w : World} {l : List (Nat × Array Value)} (h : Kn w0 l w) (o : Obj) : Kn w0 l (w.alloc o) := h.below ((Below.refl _ w).alloc (Nat.le_refl _) o)
theorem Kn.new {w0 w : World} {l : List (Nat × Array Value)} (h : Kn w0 l w) (A : Array Value) : Kn w0 ((w.heap.size, A) :: l) (w.alloc (.cells A 24)) :=
  ⟨(h.alloc _).1, fun p hp => by
    rcases List.mem_cons.1 hp with rfl | hp
    · exact heap_alloc_new w _
    · exact (h.alloc _).2 p hp⟩
theorem Kn.nil (w : World) : Kn w [] w := ⟨Below.refl _ _, fun p hp => by cases hp⟩
theorem Kn.sub {w0 w : World} {l m : List (Nat × Array Value)} (h : Kn w0 l w) (hs : ∀ p ∈ m, p ∈ l) : Kn w0 m w := ⟨h.1, fun p hp => h.2 p (hs p hp)⟩
theorem Kn.add {w0 w : World} {l : List (Nat × Array Value)} (h : Kn w0 l w) (g : Nat) (A : Array Value) (hg : w.heap[g]? = some (.cells A 24 (0, 0))) : Kn w0 ((g, A) :: l) w :=
  ⟨h.1, fun p hp => by
    rcases List.mem_cons.1 hp with rfl | hp
    · exact hg
    · exact h.2 p hp⟩
/-- A store into one of them. -/
theorem Kn.set {w0 w : World} {l m : List (Nat × Array Value)} (h : Kn w0 l w) (g : Nat) (A B : Array Value) (hg : w.heap[g]? = some (.cells B 24 (0, 0))) (hw : w0.heap.size ≤ g) (hm : ∀ p ∈ m, p = (g, A) ∨ (p ∈ l ∧ p.1 ≠ g)) : Kn w0 m (w.setRow g A) :=
  ⟨h.1.trans ⟨rfl, rfl, rfl, by simp, fun k hk => setRow_other _ _ _ _ (by omega)⟩, fun p hp => by
    rcases hm p hp with rfl | ⟨h1, h2⟩
    · exact setRow_heap _ _ _ _ _ _ hg
    · exact (setRow_other _ _ _ _ h2).trans (h.2 p h1)⟩
theorem Kn.load {w0 w : World} {l : List (Nat × Array Value)} (h : Kn w0 l w) (g : Nat) (A : Array Value) (hm : (g, A) ∈ l) (hA : IsNum A) : (loadVar 24 ⟨g, 0, none⟩).run Tryd.prog w = .ok (.agg A) w := loadA hA (h.get g A hm)
theorem Kn.cell {w0 w : World} {l : List (Nat × Array Value)} (h : Kn w0 l w) (g : Nat) (A : Array Value) (hm : (g, A) ∈ l) (j : Nat) : w.cell? ⟨g, j, none⟩ = A[j]? := cell_of_row w g j A 24 (0, 0) (h.get g A hm)
theorem IsNum.size {A : Array Value} (h : IsNum A) : A.size = 4 := by obtain ⟨f, rfl⟩ := h; exact rowOf_size _ _ _
theorem num_get (N j : Nat) (hj : j < 4) : (num N)[j]? = some (.int .u64 (dig N j : Int)) := by
  unfold num
  rw [List.getElem?_toArray, rowOf_get _ _ _ _ hj]
theorem exec_store_kn {ρ : Operand → Value} {o : Oper} {w0 : World} (w : World) {l : List (Nat × Array Value)} (h : Kn w0 l w) (x y : Operand) (ho : o.op = .store 24 x y) (g : Nat) (hx : ρ x = .pointer (some ⟨g, 0, none⟩)) (A : Array Value) (hA : IsNum A) (hy : ρ y = .agg A)
    (B : Array Value) (hB : IsNum B) (hm : (g, B) ∈ l) : (execOp ρ o).run Tryd.prog w = .ok .skip (w.setRow g A) :=
  exec_store24 w x y ho g hx A hA hy B 24 (h.get g B hm) hB.size
theorem zero_run (w : World) : (zeroValue 24).run Tryd.prog w = .ok (.agg (num 0)) w := by rw [← num_zero]; exact zero24 w
theorem build_lit (n : Nat) (w : World) : (Instr.build 24 #[(0, .int .u64 (n : Int))]).run Tryd.prog w = .ok (.agg #[.int .u64 (n : Int), .int .u64 0, .int .u64 0, .int .u64 0]) w := by kernel_rfl
theorem build_run (n : Nat) (hn : n < 18446744073709551616) (w : World) : (Instr.build 24 #[(0, .int .u64 (n : Int))]).run Tryd.prog w = .ok (.agg (num n)) w := by
  have h : num n = #[.int .u64 (n : Int), .int .u64 0, .int .u64 0, .int .u64 0] := by
    rw [num_lit, dig_0, dig_1, dig_2, dig_3, Nat.mod_eq_of_lt hn, Nat.div_eq_of_lt hn, Nat.div_eq_of_lt (by omega), Nat.div_eq_of_lt (by omega)]
    rfl
  rw [h]
  exact build_lit n w
theorem build0_run (w : World) : (Instr.build 24 #[]).run Tryd.prog w = .ok (.agg (num 0)) w := by kernel_rfl
theorem exec_pickt {P : Program} {ρ : Operand → Value} {o : Oper} (x y z : Operand) (ho : o.op = .pick x y z) (hx : ρ x = .bool true) (v : Value) (hy : ρ y = v) (w : World) : (execOp ρ o).run P w = .ok (.value v) w := by
  subst hy
  unfold execOp
  rw [ho]
  simp only [hx]
  go_simp
theorem exec_pickf {P : Program} {ρ : Operand → Value} {o : Oper} (x y z : Operand) (ho : o.op = .pick x y z) (hx : ρ x = .bool false) (v : Value) (hz : ρ z = v) (w : World) : (execOp ρ o).run P w = .ok (.value v) w := by
  subst hz
  unfold execOp
  rw [ho]
  simp only [hx]
  go_simp
theorem wp_cut {P : Program} {c : Code} {Q : Exit → Act → World → Prop} {a : Act} {w : World} (K : Act → World → Prop) (h : c.wp P (Nrm K) a w) (h2 : ∀ a w, K a w → Q .normal a w) : c.wp P Q a w :=
  wp_nrm ((wpIn_wide (n := 0)).1 (wpIn_mono ((wpIn_wide (n := 0)).2 h) (fun e a w h => by cases e <;> first | exact h2 _ _ h | exact h.elim)))
theorem num_inj {a b : Nat} (ha : a < 115792089237316195423570985008687907853269984665640564039457584007913129639936) (hb : b < 115792089237316195423570985008687907853269984665640564039457584007913129639936) (h0 : dig a 0 = dig b 0) (h1 : dig a 1 = dig b 1) (h2 : dig a 2 = dig b 2) (h3 : dig a 3 = dig b 3) : a = b := by
  rw [← val_dig a ha, ← val_dig b hb]
  unfold valN
  rw [h0, h1, h2, h3]
theorem eq24 (a0 a1 a2 a3 b0 b1 b2 b3 : Nat) (w : World) : (Op.equalIn 10000 24 (.agg #[.int .u64 (a0 : Int), .int .u64 (a1 : Int), .int .u64 (a2 : Int), .int .u64 (a3 : Int)]) (.agg #[.int .u64 (b0 : Int), .int .u64 (b1 : Int), .int .u64 (b2 : Int), .int .u64 (b3 : Int)])).run Tryd.prog w =
    .ok (decide (a0 = b0) && (decide (a1 = b1) && (decide (a2 = b2) && decide (a3 = b3)))) w := by
  have u3 := Tryd.underlying22
  have a3' := Tryd.isAgg22
  have z3 := Tryd.sizeOf22
  rw [show (10000 : Nat) = 9999 + 1 from rfl, Op.equalIn]
  simp only [Sem.run_bind, run_underlying Tryd.underlying24, Result.andThen_ok]
  simp only [Std.Legacy.Range.forIn_eq_forIn_range', Std.Legacy.Range.size, Nat.sub_zero, Nat.add_sub_cancel, Nat.div_one, List.range'_succ, List.range'_zero, List.forIn_cons, List.forIn_nil]
  go_simp
  by_cases h0 : a0 = b0 <;> by_cases h1 : a1 = b1 <;> by_cases h2 : a2 = b2 <;> by_cases h3 : a3 = b3 <;> simp [h0, h1, h2, h3] <;> omega
theorem exec_eql {ρ : Operand → Value} {o : Oper} (x y : Operand) (ho : o.op = .binOp .eql 24 x y 24) (a b : Nat) (ha : a < 115792089237316195423570985008687907853269984665640564039457584007913129639936) (hb : b < 115792089237316195423570985008687907853269984665640564039457584007913129639936) (hx : ρ x = .agg (num a)) (hy : ρ y = .agg (num b)) (v : Bool) (hv : v = decide (a = b)) (w : World) :
    (execOp ρ o).run Tryd.prog w = .ok (.value (.bool v)) w := by
  subst hv
  unfold execOp
  rw [ho]
  simp only [hx, hy]
  rw [num_lit, num_lit]
  have h := eq24 (dig a 0) (dig a 1) (dig a 2) (dig a 3) (dig b 0) (dig b 1) (dig b 2) (dig b 3) w
  have hd : (decide (dig a 0 = dig b 0) && (decide (dig a 1 = dig b 1) && (decide (dig a 2 = dig b 2) && decide (dig a 3 = dig b 3)))) = decide (a = b) := by
    by_cases e : a = b
    · subst e; simp
    · rw [decide_eq_false e]
      apply Bool.eq_false_iff.2
      intro hc
      simp at hc
      exact e (num_inj ha hb hc.1 hc.2.1 hc.2.2.1 hc.2.2.2)
  rw [hd] at h
  go_simp
end Go.Proofs.YtfcnfcolhahghaaDoor
