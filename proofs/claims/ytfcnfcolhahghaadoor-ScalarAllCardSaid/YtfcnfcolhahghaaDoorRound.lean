/- What a range over a function wants: laws on operations inside a round, and what the iterator of package sha hands its rounds: the whole blocks of a text, in order. No condition. -/
import Derived.Test.YtfcnfcolhahghaaDoorMem
import Derived.RangeFuncNested
import Derived.RangeFuncBound
import Derived.RangeFuncCalls
import Derived.RangeFuncLeaves
import Derived.RangeFuncFrom
import Derived.Shelf.Abstract
import Derived.Shelf.RegionOpen
import Derived.OwnWalkIn
import Derived.TacticsInMore
import Derived.LoopNIn
import Derived.LoopIn
import Derived.RegionIn
namespace Go.Proofs.YtfcnfcolhahghaaDoor
open Go.RowKit Go.Shelf
set_option linter.unusedVariables false
attribute [local go_sem] Oper.semAt_some

section
variable {F : Fence} {n : Nat} {P : Program} {ops : Array Oper} {Q : Exit → Act → World → Prop} {a : Act} {w w2 : World} {rest : List Oper} {o : Oper}
theorem wpListIn_run (hgd : o.guard = none) (hab : o.about P w a.eval = none) (hsem : o.semAt F.round a.eval = execOp a.eval o) (v : Value)
    (hrun : (execOp a.eval o).run P w = .ok (.value v) w2) (h : wpListIn F n P ops Q rest (a.put o.dst v) w2) : wpListIn F n P ops Q (o :: rest) a w :=
  wpListIn_plain hgd fun K hK => ⟨fun f hf => (by rw [hab] at hf; cases hf), by rw [hsem, hrun]; exact hK _ _ h⟩
theorem wpListIn_run0 (hgd : o.guard = none) (hab : o.about P w a.eval = none) (hsem : o.semAt F.round a.eval = execOp a.eval o)
    (hrun : (execOp a.eval o).run P w = .ok .skip w2) (h : wpListIn F n P ops Q rest (a.put o.dst undef) w2) : wpListIn F n P ops Q (o :: rest) a w :=
  wpListIn_plain hgd fun K hK => ⟨fun f hf => (by rw [hab] at hf; cases hf), by rw [hsem, hrun]; exact hK _ _ h⟩

variable {md : Region.Mode} {fuel : Nat} {listed : Array Bool} {w3 : World} {i j : Nat} {rs : List Nat}
theorem opIn_run {K : Act → World → Prop} (hnc : ∀ c, o.op ≠ .call c) (hnd : ∀ c, o.op ≠ .defer c) (hg : o.guard = none) (v : Value) (hrun : (execOp a.eval o).run P w = .ok (.value v) w2) (h : K (a.put o.dst v) w2) :
    Oper.wpIn F n P o a w K Q := by
  have hab : o.about P w a.eval = none := by
    unfold Oper.about
    cases ho : o.op <;> first | rfl | exact absurd ho (hnc _)
  have hsem : o.semAt F.round a.eval = execOp a.eval o := by
    cases hr : F.round with
    | none => exact Oper.semAt_none _ _
    | some l => exact Oper.semAt_some l _ _ hnd
  exact ⟨fun f hf => (by rw [hab] at hf; cases hf), by rw [hsem, hrun]; exact h⟩
theorem AllReadyIn.op (d : Option Tmp) (opr : Op) (ho : (ops[i]?).map (fun o => (o.dst, o.op, o.guard)) = some (d, opr, none)) (hnc : ∀ c, opr ≠ .call c) (hnd : ∀ c, opr ≠ .defer c) (v : Value)
    (hrun : ∀ o : Oper, o.op = opr → (execOp a.eval o).run P w = .ok (.value v) w2) (h : wpAnyIn F n P md ops Q fuel (listed.setIfInBounds i true) (a.put d v) w2)
    (hs : AllReadyIn F n P md ops Q fuel listed a w rs) : AllReadyIn F n P md ops Q fuel listed a w (i :: rs) := by
  cases hq : ops[i]? with
  | none => simp [hq] at ho
  | some o =>
    simp [hq] at ho
    obtain ⟨rfl, rfl, hg⟩ := ho
    exact AllReadyIn.cons hq (fun K' hK => by rw [if_pos (by simp [Region.wanted, hg])]; exact opIn_run hnc hnd hg v (hrun o rfl) (hK _ _ h)) hs
theorem anyIn_one (i : Nat) (d : Option Tmp) (opr : Op) (hr : Region.ready md ops listed = [i]) (ho : (ops[i]?).map (fun o => (o.dst, o.op, o.guard)) = some (d, opr, none)) (hnc : ∀ c, opr ≠ .call c) (hnd : ∀ c, opr ≠ .defer c) (v : Value)
    (hrun : ∀ o : Oper, o.op = opr → (execOp a.eval o).run P w = .ok (.value v) w2) (h : wpAnyIn F n P md ops Q fuel (listed.setIfInBounds i true) (a.put d v) w2) : wpAnyIn F n P md ops Q (fuel + 1) listed a w :=
  wpAnyIn_ready hr (by simp) (AllReadyIn.op d opr ho hnc hnd v hrun h AllReadyIn.nil)
theorem anyIn_two (i j : Nat) (d : Option Tmp) (opr : Op) (d2 : Option Tmp) (opr2 : Op) (hr : Region.ready md ops listed = [i, j]) (ho : (ops[i]?).map (fun o => (o.dst, o.op, o.guard)) = some (d, opr, none))
    (ho2 : (ops[j]?).map (fun o => (o.dst, o.op, o.guard)) = some (d2, opr2, none)) (hnc : ∀ c, opr ≠ .call c) (hnd : ∀ c, opr ≠ .defer c) (hnc2 : ∀ c, opr2 ≠ .call c) (hnd2 : ∀ c, opr2 ≠ .defer c) (v v2 : Value)
    (hrun : ∀ o : Oper, o.op = opr → (execOp a.eval o).run P w = .ok (.value v) w2) (hrun2 : ∀ o : Oper, o.op = opr2 → (execOp a.eval o).run P w = .ok (.value v2) w3)
    (h : wpAnyIn F n P md ops Q fuel (listed.setIfInBounds i true) (a.put d v) w2) (h2 : wpAnyIn F n P md ops Q fuel (listed.setIfInBounds j true) (a.put d2 v2) w3) : wpAnyIn F n P md ops Q (fuel + 1) listed a w :=
  wpAnyIn_ready hr (by simp) (AllReadyIn.op d opr ho hnc hnd v hrun h (AllReadyIn.op d2 opr2 ho2 hnc2 hnd2 v2 hrun2 h2 AllReadyIn.nil))
theorem anyIn_take (i : Nat) (d : Option Tmp) (opr : Op) (v : Value) (ho : (ops[i]?).map (fun o => (o.dst, o.op, o.guard)) = some (d, opr, none)) (hnc : ∀ c, opr ≠ .call c) (hro : F.round = none) (hs : Region.noSelect ops = true) (hf : Region.free md ops listed i = true) (hr : (Region.ready md ops listed).contains i = true)
    (hQ : ∀ c a w, Q (.panic c) (a.put d v) w → Q (.panic c) a w) (hy : ∀ (o : Oper), o.op = opr → ∀ w, (execOp a.eval o).run P w = .ok (.value v) w)
    (h : wpAnyIn F n P md ops Q fuel (listed.setIfInBounds i true) (a.put d v) w) : wpAnyIn F n P md ops Q (fuel + 1) listed a w := by
  cases hq : ops[i]? with
  | none => simp [hq] at ho
  | some o =>
    simp [hq] at ho
    obtain ⟨rfl, rfl, hg⟩ := ho
    refine wpAnyIn_take hro hq hs hf hr hQ ⟨Or.inl ⟨by simp [Region.wanted, hg], hy o rfl⟩, fun w => ?_⟩ h
    unfold Oper.about
    cases ho : o.op <;> first | rfl | exact absurd ho (hnc _)
theorem AllReadyIn.yield (d : Option Tmp) (f : Operand) (args : Array Operand) (tys : Array TypeId) (ho : (ops[i]?).map (fun o => (o.dst, o.op, o.guard)) = some (d, .call { callee := .value f, args := args, argTypes := tys }, none))
    (l : Nat) (hf : a.eval f = .func (.yield l) #[] #[]) (avs : Array Value) (has : args.map a.eval = avs) (R : Ending → World → Prop) (hy : YieldAt F (n - 1) P l avs w R) (hn : 1 ≤ n)
    (hK : ∀ v w', R (.returned v) w' → wpAnyIn F n P md ops Q fuel (listed.setIfInBounds i true) (a.put d v) w') (hnp : ∀ c w', ¬ R (.panicked c) w') (hno : ∀ w', ¬ R .outgrown w')
    (hs : AllReadyIn F n P md ops Q fuel listed a w rs) : AllReadyIn F n P md ops Q fuel listed a w (i :: rs) := by
  cases hq : ops[i]? with
  | none => simp [hq] at ho
  | some o =>
    simp [hq] at ho
    obtain ⟨rfl, hop, hg⟩ := ho
    refine AllReadyIn.cons hq (fun K' hK' => ?_) hs
    rw [if_pos (by simp [Region.wanted, hg])]
    obtain ⟨fn, tmps, assign, body, hrun, hR⟩ := hy
    have hsem : o.semAt F.round a.eval = execOp a.eval o := by
      cases hr : F.round with
      | none => exact Oper.semAt_none _ _
      | some l => exact Oper.semAt_some l _ _ (fun c => by rw [hop]; exact fun e => by cases e)
    have hres : (resolve a.eval { callee := .value f, args := args, argTypes := tys } o.type).run P w = .ok { target := .fn (.yield l) #[], args := avs } w := by
      simp [resolve, hf, has, Deferred.ofValue]
    refine ⟨fun f' hf' => ?_, ?_⟩
    · unfold Oper.about at hf'
      simp only [hop, hres] at hf'
      simp [Target.leads] at hf'
    · rw [hsem]
      have hx : (execOp a.eval o).run P w = .ok (.round l fn tmps assign body) w := by
        unfold execOp
        simp only [hop, Sem.run_bind, hres, Result.andThen_ok, invoke]
        exact hrun
      rw [hx, Oper.uponIn_round]
      refine ⟨fun _ => hn, hR.mono ?_⟩
      intro e w' hr
      cases e with
      | returned v => exact hK' _ _ (hK v w' hr)
      | panicked c => exact (hnp c w' hr).elim
      | outgrown => exact (hno w' hr).elim
end

structure Fr (S : Nat → Prop) (w w' : World) : Prop where
  os : w'.os = w.os
  tape : w'.tape = w.tape
  output : w'.output = w.output
  size : w.heap.size ≤ w'.heap.size
  block : ∀ k, k < w.heap.size → ¬ S k → w'.heap[k]? = w.heap[k]?

theorem Fr.refl (S : Nat → Prop) (w : World) : Fr S w w := ⟨rfl, rfl, rfl, Nat.le_refl _, fun _ _ _ => rfl⟩
theorem Fr.trans {S : Nat → Prop} {a b c : World} (h : Fr S a b) (k : Fr S b c) : Fr S a c :=
  ⟨k.os.trans h.os, k.tape.trans h.tape, k.output.trans h.output, Nat.le_trans h.size k.size, fun i hi hS => (k.block i (Nat.lt_of_lt_of_le hi h.size) hS).trans (h.block i hi hS)⟩
theorem Fr.mono {S T : Nat → Prop} {a b : World} (h : Fr S a b) (hST : ∀ k, k < a.heap.size → S k → T k) : Fr T a b := ⟨h.os, h.tape, h.output, h.size, fun k hk hT => h.block k hk (fun hS => hT (hST k hk hS))⟩
theorem Fr.drew {S : Nat → Prop} {a w : World} (h : Fr S a w) : Fr S a w.drew := ⟨h.os, h.tape, h.output, h.size, h.block⟩
theorem Fr.alloc {S : Nat → Prop} {a w : World} (h : Fr S a w) (o : Obj) : Fr S a (w.alloc o) :=
  h.trans ⟨rfl, rfl, rfl, by simp, fun k hk _ => Below.heap_alloc _ _ _ hk⟩
theorem Fr.setCell {S : Nat → Prop} {a w : World} (h : Fr S a w) {p : Addr} (hp : S p.block) (u : Value) : Fr S a (w.setCell p u) :=
  h.trans ⟨rfl, rfl, rfl, by simp [World.setCell], fun k _ hS => Below.heap_setCell _ _ _ _ (fun e => hS (e ▸ hp))⟩
theorem Fr.setRow {S : Nat → Prop} {a w : World} (h : Fr S a w) {g : Nat} (hp : S g) (cs : Array Value) : Fr S a (w.setRow g cs) :=
  h.trans ⟨rfl, rfl, rfl, by simp, fun k _ hS => setRow_other _ _ _ _ (fun e => hS (e ▸ hp))⟩
theorem Fr.below {S : Nat → Prop} {a b : World} (h : Fr S a b) {B : Nat} (hB : B ≤ a.heap.size) (hS : ∀ k, k < B → ¬ S k) : Below B a b :=
  ⟨h.os, h.tape, h.output, h.size, fun k hk => h.block k (by omega) (hS k hk)⟩


section
variable {F : Fence} {n : Nat} {P : Program} {ops : Array Oper} {Q : Exit → Act → World → Prop} {a : Act} {w w2 : World} {rest : List Oper} {o : Oper}
theorem opIn_yield {K : Act → World → Prop} (f : Operand) (args : Array Operand) (tys : Array TypeId) (hop : o.op = .call { callee := .value f, args := args, argTypes := tys })
    (l : Nat) (hf : a.eval f = .func (.yield l) #[] #[]) (avs : Array Value) (has : args.map a.eval = avs) (R : Ending → World → Prop) (hy : YieldAt F (n - 1) P l avs w R) (hn : 1 ≤ n)
    (hK : ∀ v w', R (.returned v) w' → K (a.put o.dst v) w') (hnp : ∀ c w', ¬ R (.panicked c) w') (hno : ∀ w', ¬ R .outgrown w') : Oper.wpIn F n P o a w K Q := by
  obtain ⟨fn, tmps, assign, body, hrun, hR⟩ := hy
  have hsem : o.semAt F.round a.eval = execOp a.eval o := by
    cases hr : F.round with
    | none => exact Oper.semAt_none _ _
    | some l => exact Oper.semAt_some l _ _ (fun c => by rw [hop]; exact fun e => by cases e)
  have hres : (resolve a.eval { callee := .value f, args := args, argTypes := tys } o.type).run P w = .ok { target := .fn (.yield l) #[], args := avs } w := by
    simp [resolve, hf, has, Deferred.ofValue]
  refine ⟨fun f' hf' => ?_, ?_⟩
  · unfold Oper.about at hf'
    simp only [hop, hres] at hf'
    simp [Target.leads] at hf'
  · rw [hsem]
    have hx : (execOp a.eval o).run P w = .ok (.round l fn tmps assign body) w := by
      unfold execOp
      simp only [hop, Sem.run_bind, hres, Result.andThen_ok, invoke]
      exact hrun
    rw [hx, Oper.uponIn_round]
    refine ⟨fun _ => hn, hR.mono ?_⟩
    intro e w' hr
    cases e with
    | returned v => exact hK v w' hr
    | panicked c => exact (hnp c w' hr).elim
    | outgrown => exact (hno w' hr).elim
theorem wpListIn_yield (hgd : o.guard = none) (f : Operand) (args : Array Operand) (tys : Array TypeId) (hop : o.op = .call { callee := .value f, args := args, argTypes := tys })
    (l : Nat) (hf : a.eval f = .func (.yield l) #[] #[]) (avs : Array Value) (has : args.map a.eval = avs) (R : Ending → World → Prop) (hy : YieldAt F (n - 1) P l avs w R) (hn : 1 ≤ n)
    (hnp : ∀ c w', ¬ R (.panicked c) w') (hno : ∀ w', ¬ R .outgrown w') (hK : ∀ v w', R (.returned v) w' → wpListIn F n P ops Q rest (a.put o.dst v) w') : wpListIn F n P ops Q (o :: rest) a w :=
  wpListIn_plain hgd fun K hK' => opIn_yield f args tys hop l hf avs has R hy hn (fun v w' hr => hK' _ _ (hK v w' hr)) hnp hno
/-- A call of a function of the program. -/
theorem opIn_call {K : Act → World → Prop} (hro : F.round = none) (g : FuncId) (args : Array Operand) (tys : Array TypeId) (hop : o.op = .call { callee := .value (.func g), args := args, argTypes := tys })
    (hfn : ∀ g, F.fn g) (avs : Array Value) (has : args.map a.eval = avs) (eg : ∀ args w, (callFunc g args).run P w = .ok (.enter g args) w) (R : Ending → World → Prop) (hc : CallsIn F (n - 1) P g avs w R) (hn : 1 ≤ n)
    (hK : ∀ v w', R (.returned v) w' → K (a.put o.dst v) w') (hnp : ∀ c w', ¬ R (.panicked c) w') (hno : ∀ w', ¬ R .outgrown w') : Oper.wpIn F n P o a w K Q := by
  have hsem : o.semAt F.round a.eval = execOp a.eval o := by rw [hro]; exact Oper.semAt_none _ _
  have hev : a.eval (.func g) = .func (.func g) #[] #[] := rfl
  have hres : (resolve a.eval { callee := .value (.func g), args := args, argTypes := tys } o.type).run P w = .ok { target := .fn (.func g) #[], args := avs } w := by
    simp [resolve, hev, has, Deferred.ofValue]
  refine ⟨fun f' _ => hfn f', ?_⟩
  rw [hsem]
  have hx : (execOp a.eval o).run P w = .ok (.enter g avs) w := by
    unfold execOp
    simp only [hop, Sem.run_bind, hres, Result.andThen_ok, invoke]
    simp [eg]
  rw [hx, Oper.uponIn_enter]
  refine ⟨fun _ => hn, hc.mono ?_⟩
  intro e w' hr
  cases e with
  | returned v => exact hK v w' hr
  | panicked c => exact (hnp c w' hr).elim
  | outgrown => exact (hno w' hr).elim
theorem uponIn_unround {K : Act → World → Prop} (l : Nat) (r : Result Next) (h : o.uponIn F n P a K Q r) : o.uponIn (F.inRound l) n P a K Q r := by
  cases r with
  | ok x w => cases x <;> exact h
  | halt x w => exact h
theorem opIn_unround {K : Act → World → Prop} (l : Nat) (hro : F.round = none) (hnd : ∀ c, o.op ≠ .defer c) (h : Oper.wpIn F n P o a w K Q) : Oper.wpIn (F.inRound l) n P o a w K Q := by
  refine ⟨h.1, ?_⟩
  have h2 := h.2
  rw [hro, Oper.semAt_none] at h2
  rw [Fence.inRound_round, Oper.semAt_some l _ _ hnd]
  exact uponIn_unround l _ h2
theorem anyIn_unround {md : Region.Mode} (l : Nat) (hro : F.round = none) (hnd : ∀ (i : Nat) (o : Oper), ops[i]? = some o → ∀ c, o.op ≠ Op.defer c) : ∀ (fuel : Nat) (listed : Array Bool) (a : Act) (w : World), wpAnyIn F n P md ops Q fuel listed a w → wpAnyIn (F.inRound l) n P md ops Q fuel listed a w
  | 0, _, _, _, h => h
  | fuel + 1, listed, a, w, h => by
    refine ⟨h.1, fun i hi => ?_⟩
    have h2 := h.2 i hi
    unfold wpOpIn at h2 ⊢
    cases hq : ops[i]? with
    | none => rw [hq] at h2; exact anyIn_unround l hro hnd _ _ _ _ h2
    | some o =>
      rw [hq] at h2
      simp only at h2 ⊢
      by_cases hw : Region.wanted o (yielded ops a.tmps) = true
      · rw [if_pos hw] at h2 ⊢
        exact Oper.wpIn_mono (fun a w h => anyIn_unround l hro hnd _ _ _ _ h) (opIn_unround l hro (hnd i o hq) h2)
      · rw [if_neg hw] at h2 ⊢
        exact ⟨h2.1, anyIn_unround l hro hnd _ _ _ _ h2.2⟩
end
end Go.Proofs.YtfcnfcolhahghaaDoor
