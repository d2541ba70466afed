/- Several texts, one behind the other; each says by itself what it proves, and on what conditions. -/
import Derived.Test.YtdbbcngolcnniaaGreatDoorY15
import Derived.RangeFuncNested
import Derived.RangeFuncBound
import Derived.RangeFuncCalls
import Derived.RangeFuncLeaves
import Derived.RangeFuncFrom
import Derived.Shelf.Abstract
import Derived.Shelf.RegionOpen
import Derived.OwnWalkIn
import Derived.TacticsInMore
import Derived.LoopNIn
import Derived.LoopIn
import Derived.RegionIn
import Derived.BigRegion
import Derived.IntWalk
import Derived.RegionTactic
import Derived.Deep.RegionWith
import Derived.Deep.RegionHeld3
import Derived.Deep.DeepCutAuto
import Derived.Deep.CutBlock
/- What a range over a function wants: laws on operations inside a round, and what the iterator of package sha hands its rounds: the whole blocks of a text, in order. No condition. -/
namespace Go.Proofs.YtdbbcngolcnniaaGreatDoor.S3
set_option linter.unusedSimpArgs false
open Go.RowKit Go.Shelf
set_option linter.unusedVariables false
attribute [local go_sem] Oper.semAt_some
section
variable {F : Fence} {n : Nat} {P : Program} {ops : Array Oper} {Q : Exit → Act → World → Prop} {a : Act} {w w2 : World} {rest : List Oper} {o : Oper}
variable {md : Region.Mode} {fuel : Nat} {listed : Array Bool} {w3 : World} {i j : Nat} {rs : List Nat}
theorem opIn_run {K : Act → World → Prop} (hnc : ∀ c, o.op ≠ .call c) (hnd : ∀ c, o.op ≠ .defer c) (hg : o.guard = none) (v : Value) (hrun : (execOp a.eval o).run P w = .ok (.value v) w2) (h : K (a.put o.dst v) w2) :
  Oper.wpIn F n P o a w K Q := by
 have hab : o.about P w a.eval = none := by
  unfold Oper.about
  cases ho : o.op <;> first | rfl | exact absurd ho (hnc _)
 have hsem : o.semAt F.round a.eval = execOp a.eval o := by
  cases hr : F.round with
  | none => exact Oper.semAt_none _ _
  | some l => exact Oper.semAt_some l _ _ hnd
 exact ⟨fun f hf => (by rw [hab] at hf; cases hf), by rw [hsem, hrun]; exact h⟩
theorem AllReadyIn.op (d : Option Tmp) (opr : Op) (ho : (ops[i]?).map (fun o => (o.dst, o.op, o.guard)) = some (d, opr, none)) (hnc : ∀ c, opr ≠ .call c) (hnd : ∀ c, opr ≠ .defer c) (v : Value)
  (hrun : ∀ o : Oper, o.op = opr → (execOp a.eval o).run P w = .ok (.value v) w2) (h : wpAnyIn F n P md ops Q fuel (listed.setIfInBounds i true) (a.put d v) w2)
  (hs : AllReadyIn F n P md ops Q fuel listed a w rs) : AllReadyIn F n P md ops Q fuel listed a w (i :: rs) := by
 cases hq : ops[i]? with
 | none => simp [hq] at ho
 | some o =>
  simp [hq] at ho
  obtain ⟨rfl, rfl, hg⟩ := ho
  exact AllReadyIn.cons hq (fun K' hK => by rw [if_pos (by simp [Region.wanted, hg])]; exact opIn_run hnc hnd hg v (hrun o rfl) (hK _ _ h)) hs
theorem anyIn_take (i : Nat) (d : Option Tmp) (opr : Op) (v : Value) (ho : (ops[i]?).map (fun o => (o.dst, o.op, o.guard)) = some (d, opr, none)) (hnc : ∀ c, opr ≠ .call c) (hro : F.round = none) (hs : Region.noSelect ops = true) (hf : Region.free md ops listed i = true) (hr : (Region.ready md ops listed).contains i = true)
  (hQ : ∀ c a w, Q (.panic c) (a.put d v) w → Q (.panic c) a w) (hy : ∀ (o : Oper), o.op = opr → ∀ w, (execOp a.eval o).run P w = .ok (.value v) w)
  (h : wpAnyIn F n P md ops Q fuel (listed.setIfInBounds i true) (a.put d v) w) : wpAnyIn F n P md ops Q (fuel + 1) listed a w := by
 cases hq : ops[i]? with
 | none => simp [hq] at ho
 | some o =>
  simp [hq] at ho
  obtain ⟨rfl, rfl, hg⟩ := ho
  refine wpAnyIn_take hro hq hs hf hr hQ ⟨Or.inl ⟨by simp [Region.wanted, hg], hy o rfl⟩, fun w => ?_⟩ h
  unfold Oper.about
  cases ho : o.op <;> first | rfl | exact absurd ho (hnc _)
theorem AllReadyIn.yield (d : Option Tmp) (f : Operand) (args : Array Operand) (tys : Array TypeId) (ho : (ops[i]?).map (fun o => (o.dst, o.op, o.guard)) = some (d, .call { callee := .value f, args := args, argTypes := tys }, none))
  (l : Nat) (hf : a.eval f = .func (.yield l) #[] #[]) (avs : Array Value) (has : args.map a.eval = avs) (R : Ending → World → Prop) (hy : YieldAt F (n - 1) P l avs w R) (hn : 1 ≤ n)
  (hK : ∀ v w', R (.returned v) w' → wpAnyIn F n P md ops Q fuel (listed.setIfInBounds i true) (a.put d v) w') (hnp : ∀ c w', ¬ R (.panicked c) w') (hno : ∀ w', ¬ R .outgrown w')
  (hs : AllReadyIn F n P md ops Q fuel listed a w rs) : AllReadyIn F n P md ops Q fuel listed a w (i :: rs) := by
 cases hq : ops[i]? with
 | none => simp [hq] at ho
 | some o =>
  simp [hq] at ho
  obtain ⟨rfl, hop, hg⟩ := ho
  refine AllReadyIn.cons hq (fun K' hK' => ?_) hs
  rw [if_pos (by simp [Region.wanted, hg])]
  obtain ⟨fn, tmps, assign, body, hrun, hR⟩ := hy
  have hsem : o.semAt F.round a.eval = execOp a.eval o := by
   cases hr : F.round with
   | none => exact Oper.semAt_none _ _
   | some l => exact Oper.semAt_some l _ _ (fun c => by rw [hop]; exact fun e => by cases e)
  have hres : (resolve a.eval { callee := .value f, args := args, argTypes := tys } o.type).run P w = .ok { target := .fn (.yield l) #[], args := avs } w := by
   simp [resolve, hf, has, Deferred.ofValue]
  refine ⟨fun f' hf' => ?_, ?_⟩
  ·unfold Oper.about at hf'
   simp only [hop, hres] at hf'
   simp [Target.leads] at hf'
  ·rw [hsem]
   have hx : (execOp a.eval o).run P w = .ok (.round l fn tmps assign body) w := by
    unfold execOp
    simp only [hop, Sem.run_bind, hres, Result.andThen_ok, invoke]
    exact hrun
   rw [hx, Oper.uponIn_round]
   refine ⟨fun _ => hn, hR.mono ?_⟩
   intro e w' hr
   cases e with
   | returned v => exact hK' _ _ (hK v w' hr)
   | panicked c => exact (hnp c w' hr).elim
   | outgrown => exact (hno w' hr).elim
end
structure Fr (S : Nat → Prop) (w w' : World) : Prop where
 os : w'.os = w.os
 tape : w'.tape = w.tape
 output : w'.output = w.output
 size : w.heap.size ≤ w'.heap.size
 block : ∀ k, k < w.heap.size → ¬ S k → w'.heap[k]? = w.heap[k]?
theorem Fr.refl (S : Nat → Prop) (w : World) : Fr S w w := ⟨rfl, rfl, rfl, Nat.le_refl _, fun _ _ _ => rfl⟩
theorem Fr.trans {S : Nat → Prop} {a b c : World} (h : Fr S a b) (k : Fr S b c) : Fr S a c :=
 ⟨k.os.trans h.os, k.tape.trans h.tape, k.output.trans h.output, Nat.le_trans h.size k.size, fun i hi hS => (k.block i (Nat.lt_of_lt_of_le hi h.size) hS).trans (h.block i hi hS)⟩
theorem Fr.mono {S T : Nat → Prop} {a b : World} (h : Fr S a b) (hST : ∀ k, k < a.heap.size → S k → T k) : Fr T a b := ⟨h.os, h.tape, h.output, h.size, fun k hk hT => h.block k hk (fun hS => hT (hST k hk hS))⟩
theorem Fr.drew {S : Nat → Prop} {a w : World} (h : Fr S a w) : Fr S a w.drew := ⟨h.os, h.tape, h.output, h.size, h.block⟩
theorem Fr.alloc {S : Nat → Prop} {a w : World} (h : Fr S a w) (o : Obj) : Fr S a (w.alloc o) :=
 h.trans ⟨rfl, rfl, rfl, by simp, fun k hk _ => Below.heap_alloc _ _ _ hk⟩
theorem Fr.setCell {S : Nat → Prop} {a w : World} (h : Fr S a w) {p : Addr} (hp : S p.block) (u : Value) : Fr S a (w.setCell p u) :=
 h.trans ⟨rfl, rfl, rfl, by simp [World.setCell], fun k _ hS => Below.heap_setCell _ _ _ _ (fun e => hS (e ▸ hp))⟩
theorem Fr.setRow {S : Nat → Prop} {a w : World} (h : Fr S a w) {g : Nat} (hp : S g) (cs : Array Value) : Fr S a (w.setRow g cs) :=
 h.trans ⟨rfl, rfl, rfl, by simp, fun k _ hS => setRow_other _ _ _ _ (fun e => hS (e ▸ hp))⟩
theorem Fr.below {S : Nat → Prop} {a b : World} (h : Fr S a b) {B : Nat} (hB : B ≤ a.heap.size) (hS : ∀ k, k < B → ¬ S k) : Below B a b :=
 ⟨h.os, h.tape, h.output, h.size, fun k hk => h.block k (by omega) (hS k hk)⟩
section
variable {F : Fence} {n : Nat} {P : Program} {ops : Array Oper} {Q : Exit → Act → World → Prop} {a : Act} {w w2 : World} {rest : List Oper} {o : Oper}
theorem opIn_yield {K : Act → World → Prop} (f : Operand) (args : Array Operand) (tys : Array TypeId) (hop : o.op = .call { callee := .value f, args := args, argTypes := tys })
  (l : Nat) (hf : a.eval f = .func (.yield l) #[] #[]) (avs : Array Value) (has : args.map a.eval = avs) (R : Ending → World → Prop) (hy : YieldAt F (n - 1) P l avs w R) (hn : 1 ≤ n)
  (hK : ∀ v w', R (.returned v) w' → K (a.put o.dst v) w') (hnp : ∀ c w', ¬ R (.panicked c) w') (hno : ∀ w', ¬ R .outgrown w') : Oper.wpIn F n P o a w K Q := by
 obtain ⟨fn, tmps, assign, body, hrun, hR⟩ := hy
 have hsem : o.semAt F.round a.eval = execOp a.eval o := by
  cases hr : F.round with
  | none => exact Oper.semAt_none _ _
  | some l => exact Oper.semAt_some l _ _ (fun c => by rw [hop]; exact fun e => by cases e)
 have hres : (resolve a.eval { callee := .value f, args := args, argTypes := tys } o.type).run P w = .ok { target := .fn (.yield l) #[], args := avs } w := by
  simp [resolve, hf, has, Deferred.ofValue]
 refine ⟨fun f' hf' => ?_, ?_⟩
 ·unfold Oper.about at hf'
  simp only [hop, hres] at hf'
  simp [Target.leads] at hf'
 ·rw [hsem]
  have hx : (execOp a.eval o).run P w = .ok (.round l fn tmps assign body) w := by
   unfold execOp
   simp only [hop, Sem.run_bind, hres, Result.andThen_ok, invoke]
   exact hrun
  rw [hx, Oper.uponIn_round]
  refine ⟨fun _ => hn, hR.mono ?_⟩
  intro e w' hr
  cases e with
  | returned v => exact hK v w' hr
  | panicked c => exact (hnp c w' hr).elim
  | outgrown => exact (hno w' hr).elim
theorem wpListIn_yield (hgd : o.guard = none) (f : Operand) (args : Array Operand) (tys : Array TypeId) (hop : o.op = .call { callee := .value f, args := args, argTypes := tys })
  (l : Nat) (hf : a.eval f = .func (.yield l) #[] #[]) (avs : Array Value) (has : args.map a.eval = avs) (R : Ending → World → Prop) (hy : YieldAt F (n - 1) P l avs w R) (hn : 1 ≤ n)
  (hnp : ∀ c w', ¬ R (.panicked c) w') (hno : ∀ w', ¬ R .outgrown w') (hK : ∀ v w', R (.returned v) w' → wpListIn F n P ops Q rest (a.put o.dst v) w') : wpListIn F n P ops Q (o :: rest) a w :=
 wpListIn_plain hgd fun K hK' => opIn_yield f args tys hop l hf avs has R hy hn (fun v w' hr => hK' _ _ (hK v w' hr)) hnp hno
theorem opIn_call {K : Act → World → Prop} (hro : F.round = none) (g : FuncId) (args : Array Operand) (tys : Array TypeId) (hop : o.op = .call { callee := .value (.func g), args := args, argTypes := tys })
  (hfn : ∀ g, F.fn g) (avs : Array Value) (has : args.map a.eval = avs) (eg : ∀ args w, (callFunc g args).run P w = .ok (.enter g args) w) (R : Ending → World → Prop) (hc : CallsIn F (n - 1) P g avs w R) (hn : 1 ≤ n)
  (hK : ∀ v w', R (.returned v) w' → K (a.put o.dst v) w') (hnp : ∀ c w', ¬ R (.panicked c) w') (hno : ∀ w', ¬ R .outgrown w') : Oper.wpIn F n P o a w K Q := by
 have hsem : o.semAt F.round a.eval = execOp a.eval o := by rw [hro]; exact Oper.semAt_none _ _
 have hev : a.eval (.func g) = .func (.func g) #[] #[] := rfl
 have hres : (resolve a.eval { callee := .value (.func g), args := args, argTypes := tys } o.type).run P w = .ok { target := .fn (.func g) #[], args := avs } w := by
  simp [resolve, hev, has, Deferred.ofValue]
 refine ⟨fun f' _ => hfn f', ?_⟩
 rw [hsem]
 have hx : (execOp a.eval o).run P w = .ok (.enter g avs) w := by
  unfold execOp
  simp only [hop, Sem.run_bind, hres, Result.andThen_ok, invoke]
  simp [eg]
 rw [hx, Oper.uponIn_enter]
 refine ⟨fun _ => hn, hc.mono ?_⟩
 intro e w' hr
 cases e with
 | returned v => exact hK v w' hr
 | panicked c => exact (hnp c w' hr).elim
 | outgrown => exact (hno w' hr).elim
theorem uponIn_unround {K : Act → World → Prop} (l : Nat) (r : Result Next) (h : o.uponIn F n P a K Q r) : o.uponIn (F.inRound l) n P a K Q r := by
 cases r with
 | ok x w => cases x <;> exact h
 | halt x w => exact h
theorem opIn_unround {K : Act → World → Prop} (l : Nat) (hro : F.round = none) (hnd : ∀ c, o.op ≠ .defer c) (h : Oper.wpIn F n P o a w K Q) : Oper.wpIn (F.inRound l) n P o a w K Q := by
 refine ⟨h.1, ?_⟩
 have h2 := h.2
 rw [hro, Oper.semAt_none] at h2
 rw [Fence.inRound_round, Oper.semAt_some l _ _ hnd]
 exact uponIn_unround l _ h2
theorem anyIn_unround {md : Region.Mode} (l : Nat) (hro : F.round = none) (hnd : ∀ (i : Nat) (o : Oper), ops[i]? = some o → ∀ c, o.op ≠ Op.defer c) : ∀ (fuel : Nat) (listed : Array Bool) (a : Act) (w : World), wpAnyIn F n P md ops Q fuel listed a w → wpAnyIn (F.inRound l) n P md ops Q fuel listed a w
 | 0, _, _, _, h => h
 | fuel + 1, listed, a, w, h => by
  refine ⟨h.1, fun i hi => ?_⟩
  have h2 := h.2 i hi
  unfold wpOpIn at h2 ⊢
  cases hq : ops[i]? with
  | none => rw [hq] at h2; exact anyIn_unround l hro hnd _ _ _ _ h2
  | some o =>
   rw [hq] at h2
   simp only at h2 ⊢
   by_cases hw : Region.wanted o (yielded ops a.tmps) = true
   ·rw [if_pos hw] at h2 ⊢
    exact Oper.wpIn_mono (fun a w h => anyIn_unround l hro hnd _ _ _ _ h) (opIn_unround l hro (hnd i o hq) h2)
   ·rw [if_neg hw] at h2 ⊢
    exact ⟨h2.1, anyIn_unround l hro hnd _ _ _ _ h2.2⟩
end
end Go.Proofs.YtdbbcngolcnniaaGreatDoor.S3
/- The iterator of package sha over the whole blocks of a text: what it hands its rounds, in order. No condition but that the text is no longer than any can be. -/
namespace Go.Proofs.YtdbbcngolcnniaaGreatDoor.S3
set_option linter.unusedSimpArgs false
open Go.RowKit Go.Shelf
set_option linter.unusedVariables false
attribute [local go_sem] Oper.semAt_some
def encIt (s : ByteArray) (x : Fin (s.size / 64)) : Array Value := #[.string (s.extract (64 * x.1) (64 * x.1 + 64))]
def KpIt (Bp : Nat) (W W' : World) : Prop := W.heap.size ≤ W'.heap.size ∧ W'.heap[Bp]? = W.heap[Bp]?
theorem KpIt.trans {Bp : Nat} {A B C : World} (h : KpIt Bp A B) (k : KpIt Bp B C) : KpIt Bp A C := ⟨Nat.le_trans h.1 k.1, k.2.trans h.2⟩
def firsts (m k : Nat) (hk : k ≤ m) : List (Fin m) := (List.finRange k).map fun x => ⟨x.1, by omega⟩
theorem firsts_length (m k : Nat) (hk : k ≤ m) : (firsts m k hk).length = k := by simp [firsts]
theorem firsts_succ (m k : Nat) (hk : k + 1 ≤ m) : firsts m (k + 1) hk = firsts m k (by omega) ++ [⟨k, by omega⟩] := by
 simp [firsts, List.finRange_succ_last]
theorem firsts_all (m : Nat) : firsts m m (Nat.le_refl _) = List.finRange m := by simp [firsts]
theorem blocks_in (s : ByteArray) (w : World) :
  CallsIn Fence.wide 4 Tryz.prog 66 #[.string s] w fun e w' => e = .returned (.func (.func 87) #[] #[.pointer (some ⟨w.heap.size, 0, none⟩)]) ∧ w.alloc (.cells #[.string s] 9) = w' := by
 refine callsIn_of_wp Tryz.func66 rfl trivial ?_ rfl
 simp only [Tryz.ntmps66, List.size_toArray, List.length_cons, List.length_nil, Nat.reduceAdd, Nat.reduceSub, Array.replicate_succ, Array.replicate_zero, List.push_toArray, List.append_toArray, List.nil_append, List.cons_append]
 gi_wp2
 go_ret
 exact ⟨rfl, rfl⟩
set_option maxHeartbeats 1000000 in
theorem iter_in (l Bp : Nat) (s : ByteArray) (hs : s.size ≤ 9223372036854775000) (J Jx : List (Fin (s.size / 64)) → World → Prop)
  (hY : ∀ pre x W, J pre W → pre.length < s.size / 64 → YieldAt Fence.wide 3 Tryz.prog l (encIt s x) W fun e W' =>
   (e = .returned (.bool true) ∧ J (pre ++ [x]) W' ∧ KpIt Bp W W') ∨ (e = .returned (.bool false) ∧ Jx (pre ++ [x]) W'))
  (W : World) (hbox : W.cell? ⟨Bp, 0, none⟩ = some (.string s)) (h0 : J [] W) :
  CallsIn Fence.wide 4 Tryz.prog 87 #[.func (.yield l) #[] #[], .pointer (some ⟨Bp, 0, none⟩)] W fun e W' => (∃ v, e = .returned v) ∧ ((∃ xs, xs = List.finRange (s.size / 64) ∧ J xs W') ∨ (∃ pre, True ∧ Jx pre W')) := by
 refine callsIn_of_wp Tryz.func87 rfl trivial ?_ rfl
 simp only [Tryz.ntmps87, List.size_toArray, List.length_cons, List.length_nil, Nat.reduceAdd, Nat.reduceSub, Array.replicate_succ, Array.replicate_zero, List.push_toArray, List.append_toArray, List.nil_append, List.cons_append]
 obtain ⟨m, hm⟩ : ∃ m, m = s.size / 64 := ⟨_, rfl⟩
 have hm1 : 64 * m ≤ s.size := by omega
 have hm2 : s.size < 64 * m + 64 := by omega
 gi_wp2
 gi_loopw [3] (fun i wr => ∃ k : Nat, ∃ hk : k ≤ s.size / 64, i = .int .i64 (64 * (k : Int)) ∧ J (firsts (s.size / 64) k hk) wr ∧ KpIt Bp W wr)
  (fun i _ => s.size + 64 - (intOf i).toNat)
 case atStart => exact ⟨0, Nat.zero_le _, rfl, h0, Nat.le_refl _, rfl⟩
 case round =>
  obtain ⟨k, hk, rfl, hJs, hsz, hb'⟩ := hrel
  have hbox2 : wr.cell? ⟨Bp, 0, none⟩ = some (.string s) := (World.cell?_of_block (w := W) (a := ⟨Bp, 0, none⟩) hb').trans hbox
  by_cases hlt : k < s.size / 64
  ·have hk1 : 64 * (k : Int) + 64 ≤ (s.size : Int) := by omega
   have HY := Lib.hid (hY (firsts (s.size / 64) k hk) (⟨k, hlt⟩ : Fin (s.size / 64)) wr hJs (by rw [firsts_length]; exact hlt))
   have hKw : Hid (KpIt Bp W wr) := ⟨hsz, hb'⟩
   clear hJs hY h0 hbox hsz hb' hm hm2 hm1
   gi_wp2_with (refine wpListIn_yield rfl (.tmp 11) #[.tmp 16] #[9] rfl l rfl (encIt s ⟨k, hlt⟩) (by simp [Act.eval, encIt]) _ HY.out (by omega) (fun c w' h => by rcases h with ⟨h, -⟩ | ⟨h, -⟩ <;> cases h) (fun w' h => by rcases h with ⟨h, -⟩ | ⟨h, -⟩ <;> cases h) ?_)
   rintro v w3 (⟨rfl, hJ3, hk3⟩ | ⟨rfl, hJx3⟩)
   ·have HJ3 := Lib.hid hJ3
    have HK3 := Lib.hid hk3
    clear hJ3 hk3
    gi_wp2
    go_roundw
    case rel => exact ⟨k + 1, by omega, congrArg (Value.int IntKind.i64) (by omega), by rw [firsts_succ]; exact HJ3.out, KpIt.trans hKw.out HK3.out⟩
    case measure => simp [intOf]; omega
   ·have HJ3 := Lib.hid hJx3
    clear hJx3
    gi_wp2
    refine bodyPost_ret (results_none rfl _ _ _) rfl ?_
    exact ⟨⟨_, rfl⟩, Or.inr ⟨_, trivial, HJ3.out⟩⟩
  ·have hkl : k = s.size / 64 := by omega
   have HJ : Hid (J (List.finRange (s.size / 64)) wr) := by subst hkl; unfold Hid; rw [← firsts_all]; exact hJs
   have hk1 : ¬ (64 * (k : Int) + 64 ≤ (s.size : Int)) := by omega
   clear hJs hY h0 hbox hb' hsz hkl hlt hm
   gi_wp2
   go_end0
   exact ⟨⟨_, rfl⟩, .inl HJ.out⟩
end Go.Proofs.YtdbbcngolcnniaaGreatDoor.S3
/- The numbers that a block is made into: words of package sha, over any 64 bytes. -/
namespace Go.Proofs.YtdbbcngolcnniaaGreatDoor.S3
set_option linter.unusedSimpArgs false
open Go.RowKit
set_option linter.unusedVariables false
theorem results_cell {fn : Func} {a : Tmp} {t : TypeId} (h : fn.results = #[.cell a t]) (tmps : Array Value) (P : Program) (w : World) (ad : Addr) (ha : tmps.getD a undef = .pointer (some ad)) (v : Value)
  (hl : (loadVar t ad).run P w = .ok v w) : (results fn tmps).run P w = .ok v w := by
 have ha2 : tmps[a]?.getD undef = .pointer (some ad) := by rw [← Array.getD_eq_getD_getElem?]; exact ha
 unfold results
 rw [h]
 simp [Array.mapM_eq_mapM_toList, ha2, asAddr, hl]
theorem cell_set_ne {w : World} {g j k : Nat} {v x : Value} (hj : j ≠ k) (h : w.cell? ⟨g, j, none⟩ = some x) : (w.setCell ⟨g, k, none⟩ v).cell? ⟨g, j, none⟩ = some x := by
 rw [← h]
 refine World.cell?_setCell_other (a := ⟨g, k, none⟩) (h := by intro e; injection e with _ e2 _; exact hj e2.symm) (w := w) (v := v)
theorem zero53 (w : World) : (zeroValue 106).run Tryz.prog w = .ok (.agg (rowOf .u32 64 (fun _ => 0)).toArray) w := by rw [← replicate_rowOf]; kernel_rfl
theorem size53 (f : Nat → Nat) : (Tryz.prog.info? 106).map (·.size) = some (rowOf .u32 64 f).length := by rw [rowOf_length]; kernel_rfl
theorem ext4 (s : ByteArray) (k : Nat) (h : 4 * k + 4 ≤ s.size) : ∃ c0 c1 c2 c3 : UInt8, s.extract (4 * k) (4 * k + 4) = ⟨#[c0, c1, c2, c3]⟩ ∧
  be s.data.toList k = c0.toNat * 16777216 + c1.toNat * 65536 + c2.toNat * 256 + c3.toNat := by
 refine ⟨s.data.toList.getD (4 * k) 0, s.data.toList.getD (4 * k + 1) 0, s.data.toList.getD (4 * k + 2) 0, s.data.toList.getD (4 * k + 3) 0, ?_, rfl⟩
 apply ByteArray.ext
 rw [ByteArray.data_extract]
 apply Array.ext'
 rw [Array.toList_extract]
 have hl : s.data.toList.length = s.size := rfl
 apply List.ext_getElem?
 intro j
 by_cases hj : j < 4
 ·have e : (List.extract s.data.toList (4 * k) (4 * k + 4))[j]? = some (s.data.toList.getD (4 * k + j) 0) := by
   rw [List.extract_eq_take_drop, List.getElem?_take, if_pos (by omega), List.getElem?_drop, List.getD_eq_getElem?_getD, List.getElem?_eq_getElem (by omega)]
   rfl
  rw [e]
  rcases (show j = 0 ∨ j = 1 ∨ j = 2 ∨ j = 3 by omega) with rfl | rfl | rfl | rfl <;> rfl
 ·rw [List.getElem?_eq_none (by rw [List.extract_eq_take_drop, List.length_take]; omega), List.getElem?_eq_none (by simp; omega)]
theorem or_join (i a b : Nat) (hb : b < 2 ^ i) : a * 2 ^ i ||| b = a * 2 ^ i + b := by
 rw [Nat.mul_comm, Nat.two_pow_add_eq_or_of_lt hb]
theorem quad_or (b0 b1 b2 b3 : Nat) (h0 : b0 < 256) (h1 : b1 < 256) (h2 : b2 < 256) (h3 : b3 < 256) :
  bits .or .u32 ((b0 : Int) * 16777216) ((b1 : Int) * 65536) = ((b0 * 16777216 + b1 * 65536 : Nat) : Int) ∧
  bits .or .u32 ((b0 * 16777216 + b1 * 65536 : Nat) : Int) ((b2 : Int) * 256) = ((b0 * 16777216 + b1 * 65536 + b2 * 256 : Nat) : Int) ∧
  bits .or .u32 ((b0 * 16777216 + b1 * 65536 + b2 * 256 : Nat) : Int) (b3 : Int) = ((b0 * 16777216 + b1 * 65536 + b2 * 256 + b3 : Nat) : Int) := by
 have e1 := u32_or_nat (b0 * 16777216) (b1 * 65536) (by omega) (by omega)
 have e2 := u32_or_nat (b0 * 16777216 + b1 * 65536) (b2 * 256) (by omega) (by omega)
 have e3 := u32_or_nat (b0 * 16777216 + b1 * 65536 + b2 * 256) b3 (by omega) (by omega)
 have j1 := or_join 24 b0 (b1 * 65536) (by omega)
 have j2 := or_join 16 (b0 * 256 + b1) (b2 * 256) (by omega)
 have j3 := or_join 8 (b0 * 65536 + b1 * 256 + b2) b3 (by omega)
 rw [show (2 : Nat) ^ 24 = 16777216 from rfl] at j1
 rw [show (2 : Nat) ^ 16 = 65536 from rfl, show (b0 * 256 + b1) * 65536 = b0 * 16777216 + b1 * 65536 by omega] at j2
 rw [show (2 : Nat) ^ 8 = 256 from rfl, show (b0 * 65536 + b1 * 256 + b2) * 256 = b0 * 16777216 + b1 * 65536 + b2 * 256 by omega] at j3
 rw [j1] at e1
 rw [j2] at e2
 rw [j3] at e3
 exact ⟨e1, e2, e3⟩
theorem quad_ex (c0 c1 c2 c3 : UInt8) : ∃ X X1 X2 : Nat, X = c0.toNat * 16777216 + c1.toNat * 65536 + c2.toNat * 256 + c3.toNat ∧
  bits .or .u32 ((c0.toNat : Int) * 16777216) ((c1.toNat : Int) * 65536) = (X1 : Int) ∧ bits .or .u32 (X1 : Int) ((c2.toNat : Int) * 256) = (X2 : Int) ∧ bits .or .u32 (X2 : Int) (c3.toNat : Int) = (X : Int) :=
 ⟨_, _, _, rfl, quad_or c0.toNat c1.toNat c2.toNat c3.toNat c0.toNat_lt c1.toNat_lt c2.toNat_lt c3.toNat_lt⟩
theorem idx0 (c0 c1 c2 c3 : UInt8) : ({ data := #[c0, c1, c2, c3] } : ByteArray)[0]'(by show 0 < 4; decide) = c0 := rfl
theorem idx1 (c0 c1 c2 c3 : UInt8) : ({ data := #[c0, c1, c2, c3] } : ByteArray)[1]'(by show 1 < 4; decide) = c1 := rfl
theorem idx2 (c0 c1 c2 c3 : UInt8) : ({ data := #[c0, c1, c2, c3] } : ByteArray)[2]'(by show 2 < 4; decide) = c2 := rfl
theorem idx3 (c0 c1 c2 c3 : UInt8) : ({ data := #[c0, c1, c2, c3] } : ByteArray)[3]'(by show 3 < 4; decide) = c3 := rfl
def WTo (l : List UInt8) (k j : Nat) : Nat := if j < k then W l j else 0
theorem WTo_step (l : List UInt8) (k : Nat) (v : Nat) (hv : v = W l k) : ∀ j, j < 64 → upd (WTo l k) k v j = WTo l (k + 1) j := by
 intro j _
 unfold upd WTo
 by_cases e : j = k
 ·subst e; rw [if_pos rfl, if_pos (by omega), hv]
 ·rw [if_neg e]
  by_cases h : j < k
  ·rw [if_pos h, if_pos (by omega)]
  ·rw [if_neg h, if_neg (by omega)]
set_option maxRecDepth 100000 in
set_option maxHeartbeats 1000000 in
theorem words_any (s : ByteArray) (hs : s.size = 64) (w : World) :
  Calls Tryz.prog 88 #[.string s] w fun e w' => e = .returned (.agg (rowOf .u32 64 (W s.data.toList)).toArray) ∧ Below w.heap.size w w' := by
 have HS := Lib.hid hs
 have hs1 : s.size ≤ 64 := by omega
 have hs2 : 64 ≤ s.size := by omega
 clear hs
 obtain ⟨l, hl⟩ : ∃ l, Hid (l = s.data.toList) := ⟨_, Lib.hid rfl⟩
 go_enter Tryz.func88, Tryz.ntmps88
 go_wp2_with (refine wpList_run rfl _ (exec_alloc_agg _ 106 rfl _ (zero53 _)) ?_)
 go_loopw [4, 5, 7] (fun i b k0 wr => ∃ k : Nat, k ≤ 16 ∧ k0 = .int .i64 k ∧ Row wr w.heap.size 106 .u32 64 (fun _ => 0) ∧ Row wr (w.heap.size + 1) 106 .u32 64 (WTo l k) ∧ Below w.heap.size w wr) (fun _ _ k _ => 16 - (intOf k).toNat)
 case atStart =>
  refine ⟨0, by omega, rfl, (Row.new w 106 .u32 64 _).alloc _, ?_, ((Below.refl _ w).alloc (Nat.le_refl _) _).alloc (by simp) _⟩
  have := Row.new (w.alloc (.cells (rowOf .u32 64 (fun _ => 0)).toArray 106)) 106 .u32 64 (WTo l 0)
  rw [World.size_alloc] at this
  exact this
 case round =>
  obtain ⟨k, hk, rfl, hR0, hR1, hB⟩ := hrel
  have HR0 := Lib.hid hR0
  have HR1 := Lib.hid hR1
  have HBl := Lib.hid hB
  have hz : w.heap.size + 1 < wr.heap.size := hR1.lt
  clear hR0 hR1 hB
  by_cases hlt : k < 16
  ·obtain ⟨c0, c1, c2, c3, hx, hbe⟩ := ext4 s k (by omega)
   obtain ⟨X, X1, X2, hX, o1, o2, o3⟩ := quad_ex c0 c1 c2 c3
   rw [← hX] at hbe
   have g0 := idx0 c0 c1 c2 c3
   have g1 := idx1 c0 c1 c2 c3
   have g2 := idx2 c0 c1 c2 c3
   have g3 := idx3 c0 c1 c2 c3
   have l0 : (c0.toNat : Int) < 256 := by have := c0.toNat_lt; omega
   have l1 : (c1.toNat : Int) < 256 := by have := c1.toNat_lt; omega
   have l2 : (c2.toNat : Int) < 256 := by have := c2.toNat_lt; omega
   have l3 : (c3.toNat : Int) < 256 := by have := c3.toNat_lt; omega
   have HX := Lib.hid hx
   have HW : Hid (X = W l k) := by unfold Hid; rw [W_low l k hlt, hl.out]; exact hbe.symm
   clear hx hbe hX
   have hk64 : (k : Int) < 64 := by omega
   have cl : wr.cell? ⟨w.heap.size + 1, k, none⟩ = some (.int .u32 (WTo l k k)) := HR1.out.cell k (by omega)
   have fr : wr.frozen? ⟨w.heap.size + 1, k, none⟩ = false := HR1.out.free k
   go_wp2
   rw [HX.out]
   go_region
   all_goals
    go_wp2
    go_roundw
    case rel =>
     refine ⟨k + 1, by omega, by go_num, ?_, ?_, ?_⟩
     ·exact Row.other (w := wr) HR0.out _ _ (by simp)
     ·exact Row.ext (Row.set (w := wr) HR1.out k X) (WTo_step l k X HW.out)
     ·exact (Below.setCell (B := w.heap.size) (a := w) (w := wr) HBl.out (p := ⟨w.heap.size + 1, k, none⟩) (Nat.le_succ _) _).drew
    case measure => simp [intOf]; omega
  ·obtain rfl : k = 16 := by omega
   go_wp2
   rw [show ((16 : Nat) : Int) = (16 : Int) from rfl]
   obtain ⟨wo, rfl⟩ : ∃ wo : World, wo = wr := ⟨_, rfl⟩
   go_loopw [6] (fun i wr => ∃ k : Nat, 16 ≤ k ∧ k ≤ 64 ∧ i = .int .i64 k ∧ Row wr w.heap.size 106 .u32 64 (fun _ => 0) ∧ Row wr (w.heap.size + 1) 106 .u32 64 (WTo l k) ∧ Below w.heap.size w wr) (fun i _ => 64 - (intOf i).toNat)
   case atStart => exact ⟨16, by omega, by omega, rfl, HR0.out, HR1.out, HBl.out⟩
   case round =>
    clear HR0 HR1 HBl hz
    obtain ⟨k, hk1, hk, rfl, hR0, hR1, hB⟩ := hrel
    have HR0 := Lib.hid hR0
    have HR1 := Lib.hid hR1
    have HBl := Lib.hid hB
    have hz : w.heap.size + 1 < wr.heap.size := hR1.lt
    clear hR0 hR1 hB
    by_cases hlt2 : k < 64
    ·have hk64 : (k : Int) < 64 := by omega
     obtain ⟨j16, hj16⟩ : ∃ j, j = k - 16 := ⟨_, rfl⟩
     have w16 : IntKind.i64.wrap ((k : Int) - 16) = (j16 : Int) := by rw [IntWalk.i64_in _ (by omega)]; omega
     have b16 : (j16 : Int) < 64 := by omega
     have c16 : wr.cell? ⟨w.heap.size + 1, j16, none⟩ = some (.int .u32 (W l j16)) := by rw [HR1.out.cell j16 (by omega)]; unfold WTo; rw [if_pos (by omega)]
     obtain ⟨j15, hj15⟩ : ∃ j, j = k - 15 := ⟨_, rfl⟩
     have w15 : IntKind.i64.wrap ((k : Int) - 15) = (j15 : Int) := by rw [IntWalk.i64_in _ (by omega)]; omega
     have b15 : (j15 : Int) < 64 := by omega
     have c15 : wr.cell? ⟨w.heap.size + 1, j15, none⟩ = some (.int .u32 (W l j15)) := by rw [HR1.out.cell j15 (by omega)]; unfold WTo; rw [if_pos (by omega)]
     obtain ⟨j7, hj7⟩ : ∃ j, j = k - 7 := ⟨_, rfl⟩
     have w7 : IntKind.i64.wrap ((k : Int) - 7) = (j7 : Int) := by rw [IntWalk.i64_in _ (by omega)]; omega
     have b7 : (j7 : Int) < 64 := by omega
     have c7 : wr.cell? ⟨w.heap.size + 1, j7, none⟩ = some (.int .u32 (W l j7)) := by rw [HR1.out.cell j7 (by omega)]; unfold WTo; rw [if_pos (by omega)]
     obtain ⟨j2, hj2⟩ : ∃ j, j = k - 2 := ⟨_, rfl⟩
     have w2 : IntKind.i64.wrap ((k : Int) - 2) = (j2 : Int) := by rw [IntWalk.i64_in _ (by omega)]; omega
     have b2 : (j2 : Int) < 64 := by omega
     have c2 : wr.cell? ⟨w.heap.size + 1, j2, none⟩ = some (.int .u32 (W l j2)) := by rw [HR1.out.cell j2 (by omega)]; unfold WTo; rw [if_pos (by omega)]
     have cl : wr.cell? ⟨w.heap.size + 1, k, none⟩ = some (.int .u32 (WTo l k k)) := HR1.out.cell k (by omega)
     have fr : wr.frozen? ⟨w.heap.size + 1, k, none⟩ = false := HR1.out.free k
     have HW : Hid (add (add (add (W l j16) (nearN (W l j15))) (W l j7)) (farN (W l j2)) = W l k) := by unfold Hid; rw [hj16, hj15, hj7, hj2]; exact (W_high l k hk1).symm
     have HN := Lib.hid (near_any (W l j15) (W_lt l _))
     have HF := Lib.hid (far_any (W l j2) (W_lt l _))
     have n16 : Hid (j16 ≠ k) := Lib.hid (by omega)
     clear hj16
     have n15' : Hid (j15 ≠ k) := Lib.hid (by omega)
     clear hj15
     have n7 : Hid (j7 ≠ k) := Lib.hid (by omega)
     clear hj7
     have n2' : Hid (j2 ≠ k) := Lib.hid (by omega)
     clear hj2
     generalize W l j16 = a16 at *
     generalize nearN (W l j15) = n15 at *
     generalize W l j15 = a15 at *
     generalize W l j7 = a7 at *
     generalize farN (W l j2) = n2 at *
     generalize W l j2 = a2 at *
     generalize WTo l k k = old at *
     go_wp2
     go_region_held3 (fun w' => w'.cell? ⟨w.heap.size + 1, j16, none⟩ = some (.int .u32 a16) ∧ w'.cell? ⟨w.heap.size + 1, j15, none⟩ = some (.int .u32 a15) ∧ w'.cell? ⟨w.heap.size + 1, j7, none⟩ = some (.int .u32 a7) ∧ w'.cell? ⟨w.heap.size + 1, j2, none⟩ = some (.int .u32 a2)) (first | exact ⟨c16, c15, c7, c2⟩ | exact ⟨cell_set_ne n16.out c16, cell_set_ne n15'.out c15, cell_set_ne n7.out c7, cell_set_ne n2'.out c2⟩) (first | (go_at_call 97; (with_reducible refine (HN.out _).mono ?_); rintro e w' ⟨rfl, rfl⟩) | (go_at_call 98; (with_reducible refine (HF.out _).mono ?_); rintro e w' ⟨rfl, rfl⟩))
     clear c16 c15 c7 c2 cl fr w16 w15 w7 w2 b16 b15 b7 b2
     go_wp2
     go_roundw
     case rel =>
      refine ⟨k + 1, by omega, by omega, by go_num, ?_, ?_, ?_⟩
      ·exact Row.other (w := wr) HR0.out _ _ (by simp)
      ·have h := Row.ext (Row.set (w := wr) HR1.out k (W l k)) (WTo_step l k (W l k) rfl)
       rw [← HW.out] at h
       exact h
      ·exact (Below.setCell (B := w.heap.size) (a := w) (w := wr) HBl.out (p := ⟨w.heap.size + 1, k, none⟩) (Nat.le_succ _) _).drew
     case measure => simp [intOf]; omega
    ·obtain rfl : k = 64 := by omega
     have hfull : Row wr (w.heap.size + 1) 106 .u32 64 (W l) := Row.ext HR1.out (fun j hj => by unfold WTo; rw [if_pos hj])
     obtain ⟨cs, hcs⟩ : ∃ cs, Hid (cs = rowOf .u32 64 (W l)) := ⟨_, Lib.hid rfl⟩
     have hseg : Hid (∀ j v, cs[j]? = some v → wr.cell? ⟨w.heap.size + 1, 0 + j, none⟩ = some v) := by unfold Hid; rw [hcs.out]; exact hfull.seg
     have hsz : Hid ((Tryz.prog.info? 106).map (·.size) = some cs.length) := by unfold Hid; rw [hcs.out]; exact size53 _
     have hone : Hid (∀ v ∈ cs, v.oneCell' = true) := by unfold Hid; rw [hcs.out]; exact rowOf_one _ _ _
     have hlen : Hid (cs.length = 64) := by unfold Hid; rw [hcs.out, rowOf_length]
     have hfit : Hid (0 + cs.length ≤ (rowOf .u32 64 (fun _ => 0)).toArray.size) := by unfold Hid; rw [hlen.out, rowOf_size]; exact Nat.le_refl _
     go_wp2_with (first | (refine wpList_load_seg rfl 106 (.tmp 3) rfl (w.heap.size + 1) 0 rfl cs _ hseg.out Tryz.underlying106 rfl hsz.out ?_) | (refine wpList_store_seg rfl 106 (.tmp 2) (.tmp 65) rfl w.heap.size 0 rfl cs rfl _ 106 HR0.out hfit.out hone.out hsz.out ?_))
     have hsp : splice (rowOf .u32 64 (fun _ => 0)).toArray 0 cs = cs.toArray := splice_all _ _ (by rw [hlen.out, rowOf_size])
     rw [hsp]
     have hld : (loadVar 106 ⟨w.heap.size, 0, none⟩).run Tryz.prog (wr.setRow w.heap.size cs.toArray) = .ok (.agg cs.toArray) (wr.setRow w.heap.size cs.toArray) := by
      refine run_loadVar_seg _ 106 w.heap.size 0 cs _ (fun j v hv => ?_) Tryz.underlying106 rfl hsz.out
      rw [cell_of_row _ w.heap.size (0 + j) cs.toArray 106 (0, 0) (setRow_heap _ _ _ _ _ _ HR0.out), Nat.zero_add, List.getElem?_toArray, hv]
     have hbel : Below w.heap.size w (wr.setRow w.heap.size cs.toArray) := by
      exact HBl.out.trans ⟨rfl, rfl, rfl, by simp, fun k hk => setRow_other _ _ _ _ (by omega)⟩
     generalize wr.setRow w.heap.size cs.toArray = W2 at *
     exact bodyPost_ret (v := .agg cs.toArray) (results_cell rfl _ _ _ ⟨w.heap.size, 0, none⟩ rfl _ hld) rfl ⟨by rw [hcs.out, hl.out], hbel⟩
end Go.Proofs.YtdbbcngolcnniaaGreatDoor.S3
/- The end of behind of package sha: the eight are each more by what came of them. No condition but that the numbers have 32 bits, and the block 64 bytes; the table of the package stands in memory. -/
namespace Go.Proofs.YtdbbcngolcnniaaGreatDoor.S3
set_option linter.unusedSimpArgs false
open Go.RowKit
set_option linter.unusedVariables false
theorem quiet_left {P : Program} {f : FuncId} {args : Array Value} {w : World} {n : Nat} {v : Value}
  (h : Calls P f args (w.drewN n) fun e w' => e = .returned v ∧ w.drewN n = w') : Calls P f args (w.drewN n) fun e w'' => e = .returned v ∧ ∃ m, w'' = w.drewN m :=
 h.mono fun _ _ ⟨he, hm⟩ => ⟨he, n, hm.symm⟩
def cells (s : St) : List Value := [.int .u32 s.a, .int .u32 s.b, .int .u32 s.c, .int .u32 s.d, .int .u32 s.e, .int .u32 s.f, .int .u32 s.g, .int .u32 s.h]
def Glob (w : World) : Prop := (∃ t, w.heap[1]? = some (.cells (rowOf .u32 64 kN).toArray t (0, 0))) ∧ ∃ t, w.heap[0]? = some (.cells (cells h0).toArray t (0, 0))
theorem Glob.two {w : World} (h : Glob w) : 2 ≤ w.heap.size := by
 obtain ⟨⟨t, h2⟩, _⟩ := h
 exact lt_of_block h2
theorem Glob.below {w w' : World} (h : Glob w) (hb : Below w.heap.size w w') : Glob w' := by
 have h2 := h.two
 exact ⟨by rw [hb.block 1 (by omega)]; exact h.1, by rw [hb.block 0 (by omega)]; exact h.2⟩
theorem Glob.consts {w : World} (h : Glob w) (j : Nat) (hj : j < 64) : w.cell? ⟨1, j, none⟩ = some (.int .u32 (kN j))  := by
 obtain ⟨⟨t, h1⟩, _⟩ := h
 exact Row.cell (w := w) (g := 1) (t := t) h1 j hj
theorem cells_size (s : St) : (Tryz.prog.info? 48).map (·.size) = some (cells s).length := by rw [show (cells s).length = 8 from rfl]; kernel_rfl
theorem cells_one (s : St) : ∀ v ∈ cells s, v.oneCell' = true := by
 intro v hv
 simp [cells] at hv
 rcases hv with rfl | rfl | rfl | rfl | rfl | rfl | rfl | rfl <;> rfl
def s0 : St := ⟨0, 0, 0, 0, 0, 0, 0, 0⟩
theorem zero39 (w : World) : (zeroValue 48).run Tryz.prog w = .ok (.agg (cells s0).toArray) w := by kernel_rfl
def St.at (s : St) : Nat → Nat
 | 0 => s.a
 | 1 => s.b
 | 2 => s.c
 | 3 => s.d
 | 4 => s.e
 | 5 => s.f
 | 6 => s.g
 | _ => s.h
theorem cells_row (s : St) : cells s = rowOf .u32 8 s.at := rfl
theorem St.at_lt {s : St} (h : s.ok) (j : Nat) : s.at j < 4294967296 := by
 obtain ⟨h1, h2, h3, h4, h5, h6, h7, h8⟩ := h
 unfold St.at
 split <;> assumption
theorem idx39 (t : St) (i : Nat) (hi : i < 8) (w : World) : (Instr.index 48 (.agg #[.int .u32 t.a, .int .u32 t.b, .int .u32 t.c, .int .u32 t.d, .int .u32 t.e, .int .u32 t.f, .int .u32 t.g, .int .u32 t.h]) (.int .i64 i)).run Tryz.prog w = .ok (.int .u32 (t.at i)) w := by
 rcases (show i = 0 ∨ i = 1 ∨ i = 2 ∨ i = 3 ∨ i = 4 ∨ i = 5 ∨ i = 6 ∨ i = 7 by omega) with rfl | rfl | rfl | rfl | rfl | rfl | rfl | rfl <;> kernel_rfl
def PTo (s t : St) (i j : Nat) : Nat := if j < i then add (s.at j) (t.at j) else s.at j
theorem PTo_step (s t : St) (i : Nat) : ∀ j, j < 8 → upd (PTo s t i) i (add (s.at i) (t.at i)) j = PTo s t (i + 1) j := by
 intro j _
 unfold upd PTo
 by_cases e : j = i
 ·subst e; rw [if_pos rfl, if_pos (by omega)]
 ·rw [if_neg e]
  by_cases h : j < i
  ·rw [if_pos h, if_pos (by omega)]
  ·rw [if_neg h, if_neg (by omega)]
theorem PTo_all (s t : St) : rowOf .u32 8 (PTo s t 8) = cells (plus s t) := rfl
theorem u_int (t : St) (ht : t.ok) (k w : Nat) : ((t.h : Int) + bits BinOp.xor IntKind.u32 (bits BinOp.xor IntKind.u32 ((rorN t.e 6 : Nat) : Int) ((rorN t.e 11 : Nat) : Int)) ((rorN t.e 25 : Nat) : Int) +
  bits BinOp.xor IntKind.u32 (bits BinOp.and IntKind.u32 (t.e : Int) (t.f : Int)) (bits BinOp.and IntKind.u32 (bits BinOp.xor IntKind.u32 (if IntKind.u32.signed = true then -1 else IntKind.u32.max) (t.e : Int)) (t.g : Int)) + (k : Int) + (w : Int)) % 4294967296 = ((uN t k w : Nat) : Int) := by
 obtain ⟨h1, h2, h3, h4, h5, h6, h7, h8⟩ := ht
 have e1 := u32_xor_nat _ _ (rorN_lt 6 h5) (rorN_lt 11 h5)
 have e2 := u32_xor_nat _ _ (xor_lt (rorN_lt 6 h5) (rorN_lt 11 h5)) (rorN_lt 25 h5)
 have e3 := u32_and_nat t.e t.f h5 h6
 have e4 : bits BinOp.xor IntKind.u32 (if IntKind.u32.signed = true then -1 else IntKind.u32.max) (t.e : Int) = ((4294967295 ^^^ t.e : Nat) : Int) := u32_xor_nat 4294967295 t.e (by decide) h5
 have hx : 4294967295 ^^^ t.e < 4294967296 := xor_lt (by decide) h5
 have e5 := u32_and_nat (4294967295 ^^^ t.e) t.g hx h7
 have e6 := u32_xor_nat (t.e &&& t.f) ((4294967295 ^^^ t.e) &&& t.g) (and_lt h5) (and_lt hx)
 rw [e1, e2, e3, e4, e5, e6]
 unfold uN add
 generalize rorN t.e 6 ^^^ rorN t.e 11 ^^^ rorN t.e 25 = p
 generalize (t.e &&& t.f) ^^^ ((4294967295 ^^^ t.e) &&& t.g) = q
 omega
theorem v_int (t : St) (ht : t.ok) : (bits BinOp.xor IntKind.u32 (bits BinOp.xor IntKind.u32 ((rorN t.a 2 : Nat) : Int) ((rorN t.a 13 : Nat) : Int)) ((rorN t.a 22 : Nat) : Int) +
  bits BinOp.xor IntKind.u32 (bits BinOp.xor IntKind.u32 (bits BinOp.and IntKind.u32 (t.a : Int) (t.b : Int)) (bits BinOp.and IntKind.u32 (t.a : Int) (t.c : Int))) (bits BinOp.and IntKind.u32 (t.b : Int) (t.c : Int))) % 4294967296 = ((vN t : Nat) : Int) := by
 obtain ⟨h1, h2, h3, h4, h5, h6, h7, h8⟩ := ht
 have e1 := u32_xor_nat _ _ (rorN_lt 2 h1) (rorN_lt 13 h1)
 have e2 := u32_xor_nat _ _ (xor_lt (rorN_lt 2 h1) (rorN_lt 13 h1)) (rorN_lt 22 h1)
 have e3 := u32_and_nat t.a t.b h1 h2
 have e4 := u32_and_nat t.a t.c h1 h3
 have e5 := u32_and_nat t.b t.c h2 h3
 have e6 := u32_xor_nat (t.a &&& t.b) (t.a &&& t.c) (and_lt h1) (and_lt h1)
 have e7 := u32_xor_nat ((t.a &&& t.b) ^^^ (t.a &&& t.c)) (t.b &&& t.c) (xor_lt (and_lt h1) (and_lt h1)) (and_lt h2)
 rw [e1, e2, e3, e4, e5, e6, e7]
 unfold vN add
 generalize rorN t.a 2 ^^^ rorN t.a 13 ^^^ rorN t.a 22 = p
 generalize (t.a &&& t.b) ^^^ (t.a &&& t.c) ^^^ (t.b &&& t.c) = q
 omega
theorem add_int1 (a b x : Int) (u v : Nat) (hu : a % 4294967296 = (u : Int)) (hv : b % 4294967296 = (v : Int)) : (a % 4294967296 + b % 4294967296) % 4294967296 = ((add u v : Nat) : Int) := by
 unfold add; omega
theorem add_int2 (a : Int) (d u : Nat) (hu : a % 4294967296 = (u : Int)) : ((d : Int) + a % 4294967296) % 4294967296 = ((add d u : Nat) : Int) := by
 unfold add; omega
def loopsOf : Code → List Code
 | .loop c => [c]
 | .seq a b => loopsOf a ++ loopsOf b
 | .block _ c => loopsOf c
 | .scope c => loopsOf c
 | .cond _ a b => loopsOf a ++ loopsOf b
 | _ => []
noncomputable def body2 : Code := ((Tryz.f67.body.map fun c => (loopsOf c).getD 1 .skip)).getD .skip
set_option maxRecDepth 100000 in
set_option maxHeartbeats 2000000 in
theorem loop2_ok (s t : St) (B : Nat) (w0 wr : World) (Q : Exit → Act → World → Prop) (c0 c1 c3 c4 c5 c6 c7 c8 c9 c10 c11 c12 c13 c14 c15 c16 c17 c18 c19 c20 c21 c22 c23 c24 c25 c26 c27 c28 c29 c30 c31 c32 c33 c34 c35 c36 c37 c38 c39 c40 c41 c42 c43 c44 c45 c46 c47 c48 c49 c50 c51 c52 c53 c54 c55 c56 c57 c58 c59 c60 c61 c62 c63 c64 c65 c66 c67 c68 c69 c70 c71 c72 c73 c74 c75 c76 c77 c78 c79 c80 c81 c82 c83 c84 c85 c86 c87 c88 c89 c90 c91 c92 c93 c94 c95 c96 c97 c98 c99 c100 c101 c102 c103 c104 c105 c106 c107 c110 c111 c112 c113 c114 c115 c116 c117 c118 c119 c120 : Value) (hR1 : wr.heap[B + 1]? = some (.cells (cells s0).toArray 48 (0, 0))) (hRs : Row wr B 48 .u32 8 (PTo s t 0)) (hB : Below B w0 wr)
  (hexit : ∀ (u17 u18 u110 u111 u112 u113 u114 u115 u116 u117 u118 u119 : Value) (wx : World), wx.heap[B + 1]? = some (.cells (cells s0).toArray 48 (0, 0)) ∧ Row wx B 48 .u32 8 (PTo s t 8) ∧ Below B w0 wx → Q (.exit 2) ⟨(c0 :: c1 :: (.pointer (some ⟨B, 0, none⟩)) :: c3 :: c4 :: c5 :: c6 :: c7 :: c8 :: c9 :: c10 :: c11 :: c12 :: c13 :: c14 :: c15 :: c16 :: u17 :: u18 :: c19 :: c20 :: c21 :: c22 :: c23 :: c24 :: c25 :: c26 :: c27 :: c28 :: c29 :: c30 :: c31 :: c32 :: c33 :: c34 :: c35 :: c36 :: c37 :: c38 :: c39 :: c40 :: c41 :: c42 :: c43 :: c44 :: c45 :: c46 :: c47 :: c48 :: c49 :: c50 :: c51 :: c52 :: c53 :: c54 :: c55 :: c56 :: c57 :: c58 :: c59 :: c60 :: c61 :: c62 :: c63 :: c64 :: c65 :: c66 :: c67 :: c68 :: c69 :: c70 :: c71 :: c72 :: c73 :: c74 :: c75 :: c76 :: c77 :: c78 :: c79 :: c80 :: c81 :: c82 :: c83 :: c84 :: c85 :: c86 :: c87 :: c88 :: c89 :: c90 :: c91 :: c92 :: c93 :: c94 :: c95 :: c96 :: c97 :: c98 :: c99 :: c100 :: c101 :: c102 :: c103 :: c104 :: c105 :: c106 :: c107 :: (.agg #[.int .u32 t.a, .int .u32 t.b, .int .u32 t.c, .int .u32 t.d, .int .u32 t.e, .int .u32 t.f, .int .u32 t.g, .int .u32 t.h]) :: (.int .i64 8) :: u110 :: u111 :: u112 :: u113 :: u114 :: u115 :: u116 :: u117 :: u118 :: u119 :: c120 :: []).toArray, []⟩ wx) :
  Code.wp Tryz.prog (Code.loop body2) Q ⟨(c0 :: c1 :: (.pointer (some ⟨B, 0, none⟩)) :: c3 :: c4 :: c5 :: c6 :: c7 :: c8 :: c9 :: c10 :: c11 :: c12 :: c13 :: c14 :: c15 :: c16 :: c17 :: c18 :: c19 :: c20 :: c21 :: c22 :: c23 :: c24 :: c25 :: c26 :: c27 :: c28 :: c29 :: c30 :: c31 :: c32 :: c33 :: c34 :: c35 :: c36 :: c37 :: c38 :: c39 :: c40 :: c41 :: c42 :: c43 :: c44 :: c45 :: c46 :: c47 :: c48 :: c49 :: c50 :: c51 :: c52 :: c53 :: c54 :: c55 :: c56 :: c57 :: c58 :: c59 :: c60 :: c61 :: c62 :: c63 :: c64 :: c65 :: c66 :: c67 :: c68 :: c69 :: c70 :: c71 :: c72 :: c73 :: c74 :: c75 :: c76 :: c77 :: c78 :: c79 :: c80 :: c81 :: c82 :: c83 :: c84 :: c85 :: c86 :: c87 :: c88 :: c89 :: c90 :: c91 :: c92 :: c93 :: c94 :: c95 :: c96 :: c97 :: c98 :: c99 :: c100 :: c101 :: c102 :: c103 :: c104 :: c105 :: c106 :: c107 :: (.agg #[.int .u32 t.a, .int .u32 t.b, .int .u32 t.c, .int .u32 t.d, .int .u32 t.e, .int .u32 t.f, .int .u32 t.g, .int .u32 t.h]) :: (.int .i64 0) :: c110 :: c111 :: c112 :: c113 :: c114 :: c115 :: c116 :: c117 :: c118 :: c119 :: c120 :: []).toArray, []⟩ wr := by
 conv =>
  arg 2
  arg 1
  whnf
 have HRr := Lib.hid hR1
 have HRs := Lib.hid hRs
 have HGw := Lib.hid hB
 clear hR1 hRs hB
 obtain ⟨wo, rfl⟩ : ∃ wo : World, wo = wr := ⟨_, rfl⟩
 go_loopw [17, 18, 109] (fun x y i wr => ∃ k : Nat, k ≤ 8 ∧ i = .int .i64 k ∧ wr.heap[B + 1]? = some (.cells (cells s0).toArray 48 (0, 0)) ∧ Row wr B 48 .u32 8 (PTo s t k) ∧ Below B w0 wr) (fun _ _ i _ => 8 - (intOf i).toNat)
 case atStart => exact ⟨0, by omega, rfl, HRr.out, HRs.out, HGw.out⟩
 case round =>
  clear HRr HRs HGw
  obtain ⟨k, hk, rfl, hRr, hRs, hBw⟩ := hrel
  have HRr := Lib.hid hRr
  have HRs := Lib.hid hRs
  have HBw := Lib.hid hBw
  clear hRr hRs hBw
  by_cases hlt : k < 8
  ·have ck : wr.cell? ⟨B, k, none⟩ = some (.int .u32 (s.at k)) := by rw [HRs.out.cell k hlt]; unfold PTo; rw [if_neg (by omega)]
   have fr : wr.frozen? ⟨B, k, none⟩ = false := HRs.out.free k
   have hix := idx39 t k hlt
   have hk8 : (k : Int) < 8 := by omega
   have hadd : Hid (((s.at k : Int) + (t.at k : Int)) % 4294967296 = ((add (s.at k) (t.at k) : Nat) : Int)) := Lib.hid (by unfold add; omega)
   have HRs2 := Lib.hid ((Row.set (w := wr) HRs.out k (add (s.at k) (t.at k))).ext (PTo_step s t k))
   generalize add (s.at k) (t.at k) = q at *
   generalize s.at k = x1 at *
   generalize t.at k = y1 at *
   clear hexit
   go_wp2
   go_roundw
   case rel =>
    rw [hadd.out]
    exact ⟨k + 1, by omega, by go_num, (heap_setCell_other _ _ _ _ (by simp)).trans HRr.out, HRs2.out, HBw.out.setCell (p := ⟨B, k, none⟩) (Nat.le_refl _) _⟩
   case measure => simp [intOf]; omega
  ·obtain rfl : k = 8 := by omega
   have HE := Lib.hid hexit
   have HRs := HRs.out
   have HBw := HBw.out
   have HRr := HRr.out
   have HX := Lib.hid (And.intro HRr (And.intro HRs HBw))
   clear hexit HRs HBw HRr
   rw [show ((8 : Nat) : Int) = (8 : Int) from rfl]
   go_wp2
   exact HE.out _ _ _ _ _ _ _ _ _ _ _ _ _ HX.out
end Go.Proofs.YtdbbcngolcnniaaGreatDoor.S3
