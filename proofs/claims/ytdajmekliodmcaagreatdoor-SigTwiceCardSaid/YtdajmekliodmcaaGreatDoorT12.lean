/- Several texts, one behind the other; each says by itself what it proves, and on what conditions. -/
import Derived.Test.YtdajmekliodmcaaGreatDoorT11
import Derived.OrdersHeld
import Derived.Still
import Derived.StillTail
import Derived.RangeFuncNested
import Derived.RangeFuncBound
import Derived.RangeFuncCalls
import Derived.RangeFuncLeaves
import Derived.RangeFuncFrom
import Derived.Shelf.Abstract
import Derived.Shelf.RegionOpen
import Derived.OwnWalkIn
import Derived.TacticsInMore
import Derived.LoopNIn
import Derived.LoopIn
import Derived.RegionIn
import Derived.Deep.CutBlock
import Derived.Deep.DeepCutAuto
import Derived.StillTailTactics
import Derived.Deep.RegionLaw
import Derived.BigRegion
import Derived.Deep.RegionHeld3
/- A law on a region that draws its order, whose last operation of all writes where others have read: what yields its value in every world that meets a condition may be taken first, and that condition is shown anew behind each operation but the last one. No condition but that each of the others is waited for by the last one. -/
namespace Go.Proofs.YtdajmekliodmcaaGreatDoor.W4
set_option linter.unusedSimpArgs false
open Go.RowKit
set_option linter.unusedVariables false
section
variable {P : Program} {ops : Array Oper} {Q : Exit → Act → World → Prop} {md : Region.Mode} {S : World → Prop} {f : Nat}
/-- Whatever order is picked from here on; S holds behind each operation but number f. -/
def AnyF (P : Program) (md : Region.Mode) (ops : Array Oper) (Q : Exit → Act → World → Prop) (S : World → Prop) (f : Nat) : Nat → Array Bool → Act → World → Prop
  | 0, listed, a, w => Region.ready md ops listed = [] ∧ Q .normal a w
  | n + 1, listed, a, w => (Region.ready md ops listed = [] → Q .normal a w) ∧
    ∀ i ∈ Region.ready md ops listed, wpOp P ops Q i (fun a' w' => (i ≠ f → S w' ∧ AnyF P md ops Q S f n (listed.setIfInBounds i true) a' w') ∧ (i = f → wpAny P md ops Q n (listed.setIfInBounds i true) a' w')) a w
theorem any_of_F : ∀ (n : Nat) (listed : Array Bool) (a : Act) (w : World), AnyF P md ops Q S f n listed a w → wpAny P md ops Q n listed a w
  | 0, _, _, _, h => h
  | n + 1, _, _, _, h => ⟨h.1, fun i hi => wpOp_mono (fun a' w' h' => (by by_cases e : i = f; exact h'.2 e; exact any_of_F n _ a' w' (h'.1 e).2)) (h.2 i hi)⟩
theorem AnyF.first {i : Nat} {oi : Oper} {v : Value} (hi : ops[i]? = some oi) (hsel : ∀ (j : Nat) (o : Oper) cs b, ops[j]? = some o → o.op ≠ .select cs b)
    (hQ : ∀ c a w, Q (.panic c) (a.put oi.dst v) w → Q (.panic c) a w) (hif : i ≠ f) (hw : ∀ o, ops[f]? = some o → ∃ e ∈ o.after, Region.binds md e = true ∧ e.on = i) :
    ∀ (n : Nat) (listed : Array Bool) (a : Act) (w : World),
      (∀ j oj, ops[j]? = some oj → j ≠ i → listed.getD j true = false → (∀ e ∈ oj.after, Region.binds md e = true → e.on ≠ i) → oi.apart ops oj = true) →
      i ∈ Region.ready md ops listed → YieldsIf P ops S oi v a → S w → AnyF P md ops Q S f n (listed.setIfInBounds i true) (a.put oi.dst v) w → AnyF P md ops Q S f (n + 1) listed a w := by
  intro n
  induction n with
  | zero =>
    intro listed a w _ hr hy hS H
    refine ⟨fun h => (by rw [h] at hr; cases hr), fun j hj => ?_⟩
    by_cases hji : j = i
    · subst hji; exact hy.wpOp hi hS ⟨fun _ => ⟨hS, H⟩, fun e => absurd e hif⟩
    · have := ready_mono hj hji
      rw [H.1] at this
      cases this
  | succ n ih =>
    intro listed a w hfree hr hy hS H
    refine ⟨fun h => (by rw [h] at hr; cases hr), fun j hj => ?_⟩
    by_cases hji : j = i
    · subst hji; exact hy.wpOp hi hS ⟨fun _ => ⟨hS, H⟩, fun e => absurd e hif⟩
    · have h1 := H.2 j (ready_mono hj hji)
      obtain ⟨hjun, oj, hoj, hall⟩ := mem_ready.1 hj
      have hnot : ∀ e ∈ oj.after, Region.binds md e = true → e.on ≠ i := fun e he hb heq => by
        have h1 := hall e he hb
        have h0 := (mem_ready.1 hr).1
        rw [heq] at h1
        rcases Nat.lt_or_ge i listed.size with h' | h'
        · simp [h'] at h0 h1; rw [h0] at h1; cases h1
        · simp [Array.getElem?_eq_none h'] at h1
      have hjf : j ≠ f := by
        intro e
        subst e
        obtain ⟨e, he, hb, hon⟩ := hw oj hoj
        exact hnot e he hb hon
      have h2 := wpOp_putIf hoj (hfree j oj hoj hji hjun hnot) (fun cs b => hsel i oi cs b hi) (fun cs b => hsel j oj cs b hoj) hQ hy h1
      have hfree' : ∀ k ok, ops[k]? = some ok → k ≠ i → (listed.setIfInBounds j true).getD k true = false →
          (∀ e ∈ ok.after, Region.binds md e = true → e.on ≠ i) → oi.apart ops ok = true := fun k ok hk hki hun hno => by
        refine hfree k ok hk hki ?_ hno
        by_cases hjk : j = k
        · subst hjk; exact hjun
        · rw [getD_set_ne true hjk] at hun; exact hun
      refine wpOp_mono (fun a' w' h3 => ⟨fun _ => ⟨(h3.2.1 hjf).1, ih (listed.setIfInBounds j true) a' w' hfree' (ready_mono hr (Ne.symm hji)) h3.1 (h3.2.1 hjf).1 ?_⟩, fun e => absurd e hjf⟩) h2
      rw [Array.setIfInBounds_comm _ _ hji]
      exact (h3.2.1 hjf).2
variable {n : Nat} {listed : Array Bool} {a : Act} {w w2 : World} {i : Nat} {rs : List Nat}
theorem AnyF.take (i : Nat) (d : Option Tmp) (opr : Op) (v : Value) (ho : (ops[i]?).map (fun o => (o.dst, o.op, o.guard)) = some (d, opr, none)) (hs : Region.noSelect ops = true) (hf : Region.free md ops listed i = true) (hr : (Region.ready md ops listed).contains i = true)
    (hQ : ∀ c a w, Q (.panic c) (a.put d v) w → Q (.panic c) a w) (hif : (i == f) = false) (hwt : Region.waitsFor md ops f i = true) (hy : ∀ (o : Oper), o.op = opr → ∀ w, S w → (execOp a.eval o).run P w = .ok (.value v) w) (hS : S w)
    (h : AnyF P md ops Q S f n (listed.setIfInBounds i true) (a.put d v) w) : AnyF P md ops Q S f (n + 1) listed a w := by
  cases hq : ops[i]? with
  | none => simp [hq] at ho
  | some o =>
    simp [hq] at ho
    obtain ⟨rfl, rfl, hg⟩ := ho
    refine AnyF.first hq (Region.noSelect_spec hs) hQ (by simpa using hif) ?_ n listed a w (Region.free_spec hq hf) (by simpa using hr) (Or.inl ⟨by simp [Region.wanted, hg], hy o rfl⟩) hS h
    intro o2 ho2
    obtain ⟨oj, h1, e, h2, h3, h4⟩ := Region.waitsFor_spec hwt
    rw [ho2] at h1
    cases h1
    exact ⟨e, h2, h3, h4⟩
theorem F_of_any : ∀ (n : Nat) (listed : Array Bool) (a : Act) (w : World), wpAny P md ops Q n listed a w → AnyF P md ops Q (fun _ => True) f n listed a w
  | 0, _, _, _, h => h
  | n + 1, _, _, _, h => ⟨h.1, fun i hi => wpOp_mono (fun a' w' h' => ⟨fun _ => ⟨trivial, F_of_any n _ a' w' h'⟩, fun _ => h'⟩) (h.2 i hi)⟩
/-- What yields its value in any world may be taken first, whether or not the last store waits for it. -/
theorem AnyF.first0 {i g : Nat} {oi : Oper} {v : Value} (hi : ops[i]? = some oi) (hsel : ∀ (j : Nat) (o : Oper) cs b, ops[j]? = some o → o.op ≠ .select cs b)
    (hQ : ∀ c a w, Q (.panic c) (a.put oi.dst v) w → Q (.panic c) a w) (hif : i ≠ f) (hg : ops[g]? = none) :
    ∀ (n : Nat) (listed : Array Bool) (a : Act) (w : World),
      (∀ j oj, ops[j]? = some oj → j ≠ i → listed.getD j true = false → (∀ e ∈ oj.after, Region.binds md e = true → e.on ≠ i) → oi.apart ops oj = true) →
      i ∈ Region.ready md ops listed → YieldsIf P ops (fun _ => True) oi v a → S w → AnyF P md ops Q S f n (listed.setIfInBounds i true) (a.put oi.dst v) w → AnyF P md ops Q S f (n + 1) listed a w := by
  intro n
  induction n with
  | zero =>
    intro listed a w _ hr hy hS H
    refine ⟨fun h => (by rw [h] at hr; cases hr), fun j hj => ?_⟩
    by_cases hji : j = i
    · subst hji; exact hy.wpOp hi trivial ⟨fun _ => ⟨hS, H⟩, fun e => absurd e hif⟩
    · have := ready_mono hj hji
      rw [H.1] at this
      cases this
  | succ n ih =>
    intro listed a w hfree hr hy hS H
    refine ⟨fun h => (by rw [h] at hr; cases hr), fun j hj => ?_⟩
    by_cases hji : j = i
    · subst hji; exact hy.wpOp hi trivial ⟨fun _ => ⟨hS, H⟩, fun e => absurd e hif⟩
    · have h1 := H.2 j (ready_mono hj hji)
      obtain ⟨hjun, oj, hoj, hall⟩ := mem_ready.1 hj
      have hnot : ∀ e ∈ oj.after, Region.binds md e = true → e.on ≠ i := fun e he hb heq => by
        have h1 := hall e he hb
        have h0 := (mem_ready.1 hr).1
        rw [heq] at h1
        rcases Nat.lt_or_ge i listed.size with h' | h'
        · simp [h'] at h0 h1; rw [h0] at h1; cases h1
        · simp [Array.getElem?_eq_none h'] at h1
      have h2 := wpOp_putIf hoj (hfree j oj hoj hji hjun hnot) (fun cs b => hsel i oi cs b hi) (fun cs b => hsel j oj cs b hoj) hQ hy h1
      have hfree' : ∀ k ok, ops[k]? = some ok → k ≠ i → (listed.setIfInBounds j true).getD k true = false →
          (∀ e ∈ ok.after, Region.binds md e = true → e.on ≠ i) → oi.apart ops ok = true := fun k ok hk hki hun hno => by
        refine hfree k ok hk hki ?_ hno
        by_cases hjk : j = k
        · subst hjk; exact hjun
        · rw [getD_set_ne true hjk] at hun; exact hun
      have hig : i ≠ g := fun e => by rw [← e, hi] at hg; cases hg
      refine wpOp_mono (fun a' w' h3 => ⟨fun hjf => ⟨(h3.2.1 hjf).1, ih (listed.setIfInBounds j true) a' w' hfree' (ready_mono hr (Ne.symm hji)) h3.1 (h3.2.1 hjf).1 ?_⟩, fun hjf => ?_⟩) h2
      · rw [Array.setIfInBounds_comm _ _ hji]
        exact (h3.2.1 hjf).2
      · refine any_of_F (S := fun _ => True) (f := g) _ _ _ _ (AnyF.first hi hsel hQ hig (fun o ho => by rw [hg] at ho; cases ho) n (listed.setIfInBounds j true) a' w' hfree' (ready_mono hr (Ne.symm hji)) h3.1 trivial (F_of_any _ _ _ _ ?_))
        rw [Array.setIfInBounds_comm _ _ hji]
        exact h3.2.2 hjf
theorem AnyF.take0 {n : Nat} {listed : Array Bool} {a : Act} {w : World} (i g : Nat) (d : Option Tmp) (opr : Op) (v : Value) (ho : (ops[i]?).map (fun o => (o.dst, o.op, o.guard)) = some (d, opr, none)) (hs : Region.noSelect ops = true) (hf : Region.free md ops listed i = true) (hr : (Region.ready md ops listed).contains i = true)
    (hQ : ∀ c a w, Q (.panic c) (a.put d v) w → Q (.panic c) a w) (hif : (i == f) = false) (hg : ops[g]? = none) (hy : ∀ (o : Oper), o.op = opr → ∀ w, (execOp a.eval o).run P w = .ok (.value v) w) (hS : S w)
    (h : AnyF P md ops Q S f n (listed.setIfInBounds i true) (a.put d v) w) : AnyF P md ops Q S f (n + 1) listed a w := by
  cases hq : ops[i]? with
  | none => simp [hq] at ho
  | some o =>
    simp [hq] at ho
    obtain ⟨rfl, rfl, hgd⟩ := ho
    exact AnyF.first0 hq (Region.noSelect_spec hs) hQ (by simpa using hif) hg n listed a w (Region.free_spec hq hf) (by simpa using hr) (Or.inl ⟨by simp [Region.wanted, hgd], fun w _ => hy o rfl w⟩) hS h
/-- Each of these comes up next. -/
def ReadyF (P : Program) (md : Region.Mode) (ops : Array Oper) (Q : Exit → Act → World → Prop) (S : World → Prop) (f n : Nat) (listed : Array Bool) (a : Act) (w : World) (rs : List Nat) : Prop :=
  ∀ i ∈ rs, wpOp P ops Q i (fun a' w' => (i ≠ f → S w' ∧ AnyF P md ops Q S f n (listed.setIfInBounds i true) a' w') ∧ (i = f → wpAny P md ops Q n (listed.setIfInBounds i true) a' w')) a w
theorem AnyF.ready (hr : Region.ready md ops listed = rs) (hne : rs ≠ []) (h : ReadyF P md ops Q S f n listed a w rs) : AnyF P md ops Q S f (n + 1) listed a w :=
  ⟨fun h0 => absurd (hr ▸ h0) hne, hr ▸ h⟩
theorem AnyF.done (hr : Region.ready md ops listed = []) (h : Q .normal a w) : ∀ n, AnyF P md ops Q S f n listed a w
  | 0 => ⟨hr, h⟩
  | _ + 1 => ⟨fun _ => h, by rw [hr]; simp⟩
theorem any_doneF (hr : Region.ready md ops listed = []) (h : Q .normal a w) (n : Nat) : wpAny P md ops Q n listed a w := any_of_F (S := fun _ => True) (f := 0) _ _ _ _ (AnyF.done hr h n)
theorem ReadyF.nil : ReadyF P md ops Q S f n listed a w [] := fun _ h => by cases h
theorem ReadyF.cons {o : Oper} (ho : ops[i]? = some o) (hg : o.guard = none)
    (h : ∀ K : Act → World → Prop, (∀ a' w', (i ≠ f → S w' ∧ AnyF P md ops Q S f n (listed.setIfInBounds i true) a' w') ∧ (i = f → wpAny P md ops Q n (listed.setIfInBounds i true) a' w') → K a' w') → Oper.wp P o a w K Q) (hs : ReadyF P md ops Q S f n listed a w rs) : ReadyF P md ops Q S f n listed a w (i :: rs) := fun j hj => by
  rcases List.mem_cons.1 hj with rfl | hj
  · refine wpOp_step ho (fun K hK => ?_)
    rw [if_pos (by simp [Region.wanted, hg])]
    exact h K hK
  · exact hs j hj
theorem ReadyF.op (d : Option Tmp) (opr : Op) (ho : (ops[i]?).map (fun o => (o.dst, o.op, o.guard)) = some (d, opr, none)) (v : Value)
    (hrun : ∀ o : Oper, o.op = opr → (execOp a.eval o).run P w = .ok (.value v) w2) (hS : S w2) (h : AnyF P md ops Q S f n (listed.setIfInBounds i true) (a.put d v) w2)
    (hs : ReadyF P md ops Q S f n listed a w rs) (hif : i ≠ f := by decide) : ReadyF P md ops Q S f n listed a w (i :: rs) := by
  cases hq : ops[i]? with
  | none => simp [hq] at ho
  | some o =>
    simp [hq] at ho
    obtain ⟨rfl, rfl, hg⟩ := ho
    exact ReadyF.cons hq hg (fun K hK => by unfold Oper.wp; rw [hrun o rfl]; exact hK _ _ ⟨fun _ => ⟨hS, h⟩, fun e => absurd e hif⟩) hs
theorem ReadyF.last (opr : Op) (ho : (ops[f]?).map (fun o => (o.dst, o.op, o.guard)) = some (none, opr, none))
    (hrun : ∀ o : Oper, o.op = opr → (execOp a.eval o).run P w = .ok .skip w2) (h : wpAny P md ops Q n (listed.setIfInBounds f true) a w2)
    (hs : ReadyF P md ops Q S f n listed a w rs) : ReadyF P md ops Q S f n listed a w (f :: rs) := by
  cases hq : ops[f]? with
  | none => simp [hq] at ho
  | some o =>
    simp [hq] at ho
    obtain ⟨hd, rfl, hg⟩ := ho
    refine ReadyF.cons hq hg (fun K hK => ?_) hs
    unfold Oper.wp
    rw [hrun o rfl]
    have : a.put o.dst undef = a := by rw [hd]; rfl
    have h2 : K a w2 := hK _ _ ⟨fun e => absurd rfl e, fun _ => h⟩
    rw [← this] at h2
    exact h2
theorem ReadyF.call (d : Option Tmp) (g : FuncId) (args : Array Operand) (tys : Array TypeId) (ho : (ops[i]?).map (fun o => (o.dst, o.op, o.guard)) = some (d, .call { callee := .value (.func g), args := args, argTypes := tys }, none))
    (avs : Array Value) (has : args.map a.eval = avs) (eg : ∀ args w, (callFunc g args).run P w = .ok (.enter g args) w) (R : Ending → World → Prop) (hc : Calls P g avs w R)
    (hK : ∀ v w', R (.returned v) w' → S w' ∧ AnyF P md ops Q S f n (listed.setIfInBounds i true) (a.put d v) w') (hnp : ∀ c w', ¬ R (.panicked c) w') (hno : ∀ w', ¬ R .outgrown w')
    (hs : ReadyF P md ops Q S f n listed a w rs) (hif : i ≠ f := by decide) : ReadyF P md ops Q S f n listed a w (i :: rs) := by
  cases hq : ops[i]? with
  | none => simp [hq] at ho
  | some o =>
    simp [hq] at ho
    obtain ⟨rfl, hop, hg⟩ := ho
    refine ReadyF.cons hq hg (fun K hK2 => ?_) hs
    have hev : a.eval (.func g) = .func (.func g) #[] #[] := rfl
    have hres : (resolve a.eval { callee := .value (.func g), args := args, argTypes := tys } o.type).run P w = .ok { target := .fn (.func g) #[], args := avs } w := by
      simp [resolve, hev, has, Deferred.ofValue]
    have hx : (execOp a.eval o).run P w = .ok (.enter g avs) w := by
      unfold execOp
      simp only [hop, Sem.run_bind, hres, Result.andThen_ok, invoke]
      simp [eg]
    unfold Oper.wp
    rw [hx]
    refine hc.mono ?_
    intro e w' hr
    cases e with
    | returned v => exact hK2 _ _ ⟨fun _ => hK v w' hr, fun e => absurd e hif⟩
    | panicked c => exact (hnp c w' hr).elim
    | outgrown => exact (hno w' hr).elim
end
end Go.Proofs.YtdajmekliodmcaaGreatDoor.W4
/- What a range over a function wants: laws on operations inside a round, and what the iterator of package sha hands its rounds: the whole blocks of a text, in order. No condition. -/
namespace Go.Proofs.YtdajmekliodmcaaGreatDoor.W4
set_option linter.unusedSimpArgs false
open Go.RowKit Go.Shelf
set_option linter.unusedVariables false
attribute [local go_sem] Oper.semAt_some

section
variable {F : Fence} {n : Nat} {P : Program} {ops : Array Oper} {Q : Exit → Act → World → Prop} {a : Act} {w w2 : World} {rest : List Oper} {o : Oper}
variable {md : Region.Mode} {fuel : Nat} {listed : Array Bool} {w3 : World} {i j : Nat} {rs : List Nat}
theorem opIn_run {K : Act → World → Prop} (hnc : ∀ c, o.op ≠ .call c) (hnd : ∀ c, o.op ≠ .defer c) (hg : o.guard = none) (v : Value) (hrun : (execOp a.eval o).run P w = .ok (.value v) w2) (h : K (a.put o.dst v) w2) :
    Oper.wpIn F n P o a w K Q := by
  have hab : o.about P w a.eval = none := by
    unfold Oper.about
    cases ho : o.op <;> first | rfl | exact absurd ho (hnc _)
  have hsem : o.semAt F.round a.eval = execOp a.eval o := by
    cases hr : F.round with
    | none => exact Oper.semAt_none _ _
    | some l => exact Oper.semAt_some l _ _ hnd
  exact ⟨fun f hf => (by rw [hab] at hf; cases hf), by rw [hsem, hrun]; exact h⟩
theorem AllReadyIn.op (d : Option Tmp) (opr : Op) (ho : (ops[i]?).map (fun o => (o.dst, o.op, o.guard)) = some (d, opr, none)) (hnc : ∀ c, opr ≠ .call c) (hnd : ∀ c, opr ≠ .defer c) (v : Value)
    (hrun : ∀ o : Oper, o.op = opr → (execOp a.eval o).run P w = .ok (.value v) w2) (h : wpAnyIn F n P md ops Q fuel (listed.setIfInBounds i true) (a.put d v) w2)
    (hs : AllReadyIn F n P md ops Q fuel listed a w rs) : AllReadyIn F n P md ops Q fuel listed a w (i :: rs) := by
  cases hq : ops[i]? with
  | none => simp [hq] at ho
  | some o =>
    simp [hq] at ho
    obtain ⟨rfl, rfl, hg⟩ := ho
    exact AllReadyIn.cons hq (fun K' hK => by rw [if_pos (by simp [Region.wanted, hg])]; exact opIn_run hnc hnd hg v (hrun o rfl) (hK _ _ h)) hs
end

structure Fr (S : Nat → Prop) (w w' : World) : Prop where
  os : w'.os = w.os
  tape : w'.tape = w.tape
  output : w'.output = w.output
  size : w.heap.size ≤ w'.heap.size
  block : ∀ k, k < w.heap.size → ¬ S k → w'.heap[k]? = w.heap[k]?

theorem Fr.refl (S : Nat → Prop) (w : World) : Fr S w w := ⟨rfl, rfl, rfl, Nat.le_refl _, fun _ _ _ => rfl⟩
theorem Fr.trans {S : Nat → Prop} {a b c : World} (h : Fr S a b) (k : Fr S b c) : Fr S a c :=
  ⟨k.os.trans h.os, k.tape.trans h.tape, k.output.trans h.output, Nat.le_trans h.size k.size, fun i hi hS => (k.block i (Nat.lt_of_lt_of_le hi h.size) hS).trans (h.block i hi hS)⟩
theorem Fr.mono {S T : Nat → Prop} {a b : World} (h : Fr S a b) (hST : ∀ k, k < a.heap.size → S k → T k) : Fr T a b := ⟨h.os, h.tape, h.output, h.size, fun k hk hT => h.block k hk (fun hS => hT (hST k hk hS))⟩
theorem Fr.drew {S : Nat → Prop} {a w : World} (h : Fr S a w) : Fr S a w.drew := ⟨h.os, h.tape, h.output, h.size, h.block⟩
theorem Fr.alloc {S : Nat → Prop} {a w : World} (h : Fr S a w) (o : Obj) : Fr S a (w.alloc o) :=
  h.trans ⟨rfl, rfl, rfl, by simp, fun k hk _ => Below.heap_alloc _ _ _ hk⟩
theorem Fr.setCell {S : Nat → Prop} {a w : World} (h : Fr S a w) {p : Addr} (hp : S p.block) (u : Value) : Fr S a (w.setCell p u) :=
  h.trans ⟨rfl, rfl, rfl, by simp [World.setCell], fun k _ hS => Below.heap_setCell _ _ _ _ (fun e => hS (e ▸ hp))⟩
theorem Fr.setRow {S : Nat → Prop} {a w : World} (h : Fr S a w) {g : Nat} (hp : S g) (cs : Array Value) : Fr S a (w.setRow g cs) :=
  h.trans ⟨rfl, rfl, rfl, by simp, fun k _ hS => setRow_other _ _ _ _ (fun e => hS (e ▸ hp))⟩
theorem Fr.below {S : Nat → Prop} {a b : World} (h : Fr S a b) {B : Nat} (hB : B ≤ a.heap.size) (hS : ∀ k, k < B → ¬ S k) : Below B a b :=
  ⟨h.os, h.tape, h.output, h.size, fun k hk => h.block k (by omega) (hS k hk)⟩


section
variable {F : Fence} {n : Nat} {P : Program} {ops : Array Oper} {Q : Exit → Act → World → Prop} {a : Act} {w w2 : World} {rest : List Oper} {o : Oper}
end
end Go.Proofs.YtdajmekliodmcaaGreatDoor.W4
/- root of the document's package: roots of numbers of four words, bit by bit. -/
namespace Go.Proofs.YtdajmekliodmcaaGreatDoor.W4
set_option linter.unusedSimpArgs false
open Go.RowKit
set_option linter.unusedVariables false
def l4 (x : N4) : List Value := rowOf .u64 4 (at4 x)
def o4 : N4 := ⟨0, 0, 0, 0⟩
/-- The function's variables: the number, the result, the root so far with its square and its cube, one. -/
def Six (B : Nat) (w0 w : World) (ga gr gx gs gc g1 : Nat) (a : N4) (r : R3) : Prop :=
  RowL w ga 36 (l4 a) ∧ RowL w gr 36 (l4 o4) ∧ RowL w gx 36 (l4 r.x) ∧ RowL w gs 36 (l4 r.s) ∧ RowL w gc 36 (l4 r.c) ∧ RowL w g1 36 (l4 one4) ∧ Below B w0 w
theorem Six.below {B : Nat} {w0 w w' : World} {ga gr gx gs gc g1 : Nat} {a : N4} {r : R3} (h : Six B w0 w ga gr gx gs gc g1 a r) (hB : B ≤ w.heap.size) (hb : Below w.heap.size w w') : Six B w0 w' ga gr gx gs gc g1 a r :=
  ⟨h.1.below hb, h.2.1.below hb, h.2.2.1.below hb, h.2.2.2.1.below hb, h.2.2.2.2.1.below hb, h.2.2.2.2.2.1.below hb, h.2.2.2.2.2.2.trans (hb.mono hB)⟩
theorem Six.setRow {B : Nat} {w0 w : World} {ga gr gx gs gc g1 : Nat} {a : N4} {r : R3} (h : Six B w0 w ga gr gx gs gc g1 a r) (g : Nat) (cs : Array Value) (hB : B ≤ g) (h0 : ga ≠ g) (h1 : gr ≠ g) (h2 : gx ≠ g) (h3 : gs ≠ g) (h4 : gc ≠ g) (h5 : g1 ≠ g) : Six B w0 (w.setRow g cs) ga gr gx gs gc g1 a r :=
  ⟨h.1.setRow_ne h0 _, h.2.1.setRow_ne h1 _, h.2.2.1.setRow_ne h2 _, h.2.2.2.1.setRow_ne h3 _, h.2.2.2.2.1.setRow_ne h4 _, h.2.2.2.2.2.1.setRow_ne h5 _, h.2.2.2.2.2.2.trans ⟨rfl, rfl, rfl, by simp, fun k hk => setRow_other _ _ _ _ (by omega)⟩⟩
end Go.Proofs.YtdajmekliodmcaaGreatDoor.W4
/- root of the document's package, bit by bit, at one of its two powers. -/
namespace Go.Proofs.YtdajmekliodmcaaGreatDoor.W4
set_option linter.unusedSimpArgs false
open Go.RowKit
set_option linter.unusedVariables false
end Go.Proofs.YtdajmekliodmcaaGreatDoor.W4
/- root of the document's package, bit by bit, at one of its two powers. -/
namespace Go.Proofs.YtdajmekliodmcaaGreatDoor.W4
set_option linter.unusedSimpArgs false
open Go.RowKit
set_option linter.unusedVariables false
end Go.Proofs.YtdajmekliodmcaaGreatDoor.W4
/- The first primes, as the document's package finds them. No condition but that at most 80 are asked for. -/
namespace Go.Proofs.YtdajmekliodmcaaGreatDoor.W4
set_option linter.unusedSimpArgs false
open Go.RowKit
set_option linter.unusedVariables false
/-- Numbers as cells. -/
def numsV (kd : IntKind) (l : List Nat) : List Value := l.map fun (x : Nat) => .int kd (x : Int)
theorem numsV_append (kd : IntKind) (l m : List Nat) : numsV kd (l ++ m) = numsV kd l ++ numsV kd m := by simp [numsV]
theorem info27 : (Tryz.prog.info? 34).map (fun i => (i.zero, i.size, i.bytes)) = some (some (.int .u64 0), 1, 8) := by kernel_rfl
theorem own_form {w : World} {base : Nat} {e : TypeId} {size : Nat} {v : Value} {n : Nat} {xs : List Value} (h : w.ownsRow base e size v n xs) : ∃ p c, v = .slice p n c := by
  rcases h.2 with ⟨h1, h2⟩ | ⟨g, cap, cur, h1, -⟩
  · exact ⟨none, 0, by rw [h1, h2]⟩
  · exact ⟨_, _, h1⟩
theorem own_some {w : World} {base : Nat} {e : TypeId} {size : Nat} {p : Option Addr} {c n : Nat} {xs : List Value} (h : w.ownsRow base e size (.slice p n c) n xs) (hn : 0 < n) : ∃ g, p = some ⟨g, 0, none⟩ := by
  rcases h.2 with ⟨h1, h2⟩ | ⟨g, cap, cur, h1, -⟩
  · omega
  · injection h1 with h1; exact ⟨g, h1⟩
theorem own_le {w : World} {base : Nat} {e : TypeId} {size : Nat} {p : Option Addr} {c n : Nat} {xs : List Value} (h : w.ownsRow base e size (.slice p n c) n xs) : n ≤ c := by
  rcases h.2 with ⟨h1, h2⟩ | ⟨g, cap, cur, h1, -, -, h4, -⟩
  · omega
  · injection h1 with _ _ h1; omega
end Go.Proofs.YtdajmekliodmcaaGreatDoor.W4
/- The document's Consts: of the first 64 primes the first 32 bits behind the point of their cube roots. No condition. -/
namespace Go.Proofs.YtdajmekliodmcaaGreatDoor.W4
set_option linter.unusedSimpArgs false
open Go.RowKit
set_option linter.unusedVariables false
theorem pL_len : pL.length = 80 := by decide +kernel
/-- One more number behind a row of the call's own: what 'append' comes to. -/
theorem nums_app (t e : TypeId) (kd : IntKind) (b : Nat) (hb16 : b ≤ 16) (ht : Tryz.prog.underlying t = some (.slice e)) (hinfo : (Tryz.prog.info? e).map (fun i => (i.zero, i.size, i.bytes)) = some (some (.int kd 0), 1, b))
    {W wr : World} {B : Nat} {v : Value} {n : Nat} {l : List Nat} (hown : wr.ownsRow B e 1 v n (numsV kd l)) (hb : Below B W wr) (hB : B ≤ wr.heap.size) (x : Nat) (hlt : n ≤ 1000000) :
    ∃ p c W3, (∀ (ρ : Operand → Value) (o : Oper) (s y : Operand), o.op = Op.call { callee := Callee.builtin Builtin.append, args := #[s, y], argTypes := #[t, t] } → ρ s = v → ρ y = .slice (some ⟨wr.heap.size, 0, none⟩) 1 1 → (execOp ρ o).run Tryz.prog (wr.alloc (.cells #[.int kd (x : Int)] e)) = .ok (.value (.slice p (n + 1) c)) W3) ∧
      W3.ownsRow B e 1 (.slice p (n + 1) c) (n + 1) (numsV kd (l ++ [x])) ∧ Below B W W3 := by
  obtain ⟨i3, hi3, hz3, hs3, hb3⟩ := info_parts hinfo
  obtain ⟨v', W3, happ, hown', hgrow, hat⟩ := exec_append_own (P := Tryz.prog) (wr.alloc (.cells #[.int kd (x : Int)] e)) B t e i3 _ 1 b ht hi3 hz3 hs3 hb3 rfl (by decide) v n _ (hown.alloc _) ⟨wr.heap.size, 0, none⟩ 1 1 [.int kd (x : Int)] rfl (by
      intro j u hu
      rw [addr_add, cell_of_row _ wr.heap.size (0 + j) [Value.int kd (x : Int)].toArray e (0, 0) (heap_alloc_new wr _), Nat.zero_add, List.getElem?_toArray]
      exact hu) (by intro u hu; simp at hu; subst hu; rfl) (by unfold maxLen; omega) (by have h1 : (n + 1) * b ≤ (n + 1) * 16 := Nat.mul_le_mul_left _ hb16; omega) (by simp; omega)
  obtain ⟨p, c, rfl⟩ := own_form hown'
  exact ⟨p, c, W3, happ, by rw [numsV_append]; exact hown', (hb.alloc hB _).grown hgrow (by simp; omega) (fun j hj => (hown.lt j hj).1)⟩
end Go.Proofs.YtdajmekliodmcaaGreatDoor.W4
/- The bytes of the numbers (told), and New, of package sha. No condition but that the numbers have 32 bits. -/
namespace Go.Proofs.YtdajmekliodmcaaGreatDoor.W4
set_option linter.unusedSimpArgs false
open Go.RowKit
set_option linter.unusedVariables false
/-- Bytes as cells. -/
def bytesV (l : List UInt8) : List Value := l.map fun b => .int .u8 (b.toNat : Int)
theorem bytesV_append (l m : List UInt8) : bytesV (l ++ m) = bytesV l ++ bytesV m := by simp [bytesV]
theorem bytesV_length (l : List UInt8) : (bytesV l).length = l.length := by simp [bytesV]
theorem info5 : (Tryz.prog.info? 5).map (fun i => (i.zero, i.size, i.bytes)) = some (some (.int .u8 0), 1, 1) := by kernel_rfl
/-- A row of bytes of the call's own, and some more behind it. -/
theorem bytes_app {W wr : World} {B : Nat} {v : Value} {n : Nat} {l : List UInt8} (hown : wr.ownsRow B 5 1 v n (bytesV l)) (hb : Below B W wr) (hB : B ≤ wr.heap.size)
    (news : List UInt8) (m : Nat) (hm : news.length = m) (arr : Array Value) (harr : arr = (bytesV news).toArray) (hlt : n + m ≤ 1000000) :
    ∃ v' W3, (∀ (ρ : Operand → Value) (o : Oper) (s x : Operand), o.op = Op.call { callee := Callee.builtin Builtin.append, args := #[s, x], argTypes := #[33, 33] } → ρ s = v → ρ x = .slice (some ⟨wr.heap.size, 0, none⟩) m m → (execOp ρ o).run Tryz.prog (wr.alloc (.cells arr 5)) = .ok (.value v') W3) ∧
      W3.ownsRow B 5 1 v' (n + m) (bytesV (l ++ news)) ∧ Below B W W3 ∧ W3.heap.size ≥ wr.heap.size := by
  obtain ⟨i5, hi5, hz5, hs5, hb5⟩ := info_parts info5
  subst harr
  obtain ⟨v', W3, happ, hown', hgrow, hat⟩ := exec_append_own (P := Tryz.prog) (wr.alloc (.cells (bytesV news).toArray 5)) B 33 5 i5 _ 1 1 Tryz.underlying33 hi5 hz5 hs5 hb5 rfl (by decide) _ n _ (hown.alloc _) ⟨wr.heap.size, 0, none⟩ m m (bytesV news) (by rw [bytesV_length]; omega) (by
      intro j u hu
      rw [addr_add, cell_of_row _ wr.heap.size (0 + j) (bytesV news).toArray 5 (0, 0) (heap_alloc_new wr _), Nat.zero_add, List.getElem?_toArray]
      exact hu) (by intro u hu; simp [bytesV] at hu; obtain ⟨b, _, rfl⟩ := hu; rfl) (by unfold maxLen; omega) (by omega) (by simp; omega)
  refine ⟨v', W3, happ, by rw [bytesV_append]; exact hown', (hb.alloc hB _).grown hgrow (by simp; omega) (fun j hj => (hown.lt j hj).1), ?_⟩
  have := hgrow.size
  simp at this
  omega
/-- A row of bytes of the call's own as a string. -/
theorem bytes_str {wr : World} {B : Nat} {v : Value} {n : Nat} {l : List UInt8} (hown : wr.ownsRow B 5 1 v n (bytesV l)) (hn : 0 < n) :
    ∃ g cap, v = .slice (some ⟨g, 0, none⟩) n cap ∧ (Go.convert 33 9 (.slice (some ⟨g, 0, none⟩) n cap)).run Tryz.prog wr = .ok (.string ⟨l.toArray⟩) wr := by
  have hl : l.length = n := by have := hown.1; rw [bytesV_length] at this; omega
  rcases hown.2 with ⟨_, h0⟩ | ⟨g, cap, cur, rfl, _⟩
  · omega
  · subst hl
    refine ⟨g, cap, rfl, run_convert_bytes_back wr 33 9 5 ⟨g, 0, none⟩ cap l Tryz.underlying33 Tryz.underlying5 Tryz.underlying9 (fun j hj => ?_)⟩
    rw [addr_add, Nat.zero_add, hown.cellAt j (by omega)]
    unfold bytesV
    rw [List.getElem?_map, List.getElem?_eq_getElem hj]
    rfl
end Go.Proofs.YtdajmekliodmcaaGreatDoor.W4
/- Big and big of the document's package: bytes of a number, and back. No condition but that the number has 64 bits, the bytes are four or eight. -/
namespace Go.Proofs.YtdajmekliodmcaaGreatDoor.W4
set_option linter.unusedSimpArgs false
open Go.RowKit
set_option linter.unusedVariables false
end Go.Proofs.YtdajmekliodmcaaGreatDoor.W4
/- The rounds of the document's Wide: the eight numbers behind 80 of them. -/
namespace Go.Proofs.YtdajmekliodmcaaGreatDoor.W4
set_option linter.unusedSimpArgs false
open Go.RowKit
set_option linter.unusedVariables false
noncomputable def shaB3 : Code := ((Tryz.f41.body.map fun c => (loopsOf c).getD 2 .skip)).getD .skip
noncomputable def shaB6 : Code := (loopsOf shaB3).getD 2 .skip
end Go.Proofs.YtdajmekliodmcaaGreatDoor.W4
/- The end of a block in the document's Wide: the eight are each more by what came of it. -/
namespace Go.Proofs.YtdajmekliodmcaaGreatDoor.W4
set_option linter.unusedSimpArgs false
open Go.RowKit
set_option linter.unusedVariables false
noncomputable def shaB7 : Code := (loopsOf shaB3).getD 3 .skip
end Go.Proofs.YtdajmekliodmcaaGreatDoor.W4
/- Hex of the document's package: the letters of bytes. One byte or more, up to a thousand. -/
namespace Go.Proofs.YtdajmekliodmcaaGreatDoor.W4
set_option linter.unusedSimpArgs false
open Go.RowKit
set_option linter.unusedVariables false
end Go.Proofs.YtdajmekliodmcaaGreatDoor.W4
/- The document's Wide: the 80 numbers that a block is made into. -/
namespace Go.Proofs.YtdajmekliodmcaaGreatDoor.W4
set_option linter.unusedSimpArgs false
open Go.RowKit
set_option linter.unusedVariables false
end Go.Proofs.YtdajmekliodmcaaGreatDoor.W4
/- The document's Wide: the 16 numbers that a block begins with. -/
namespace Go.Proofs.YtdajmekliodmcaaGreatDoor.W4
set_option linter.unusedSimpArgs false
open Go.RowKit
set_option linter.unusedVariables false
noncomputable def shaB4 : Code := (loopsOf shaB3).getD 0 .skip
theorem extract_size (T : ByteArray) (a b : Nat) (h : b ≤ T.size) : (T.extract a b).size = b - a := by
  rw [ByteArray.size_extract]; omega
end Go.Proofs.YtdajmekliodmcaaGreatDoor.W4
