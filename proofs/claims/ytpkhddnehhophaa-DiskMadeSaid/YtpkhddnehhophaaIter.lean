/- What the iterator of package disk hands its rounds, whatever they do, as long as they leave the head of the disk and its loose writes alone. -/
import Derived.Test.YtpkhddnehhophaaWriteB
import Derived.RangeFuncNested
import Derived.RangeFuncBound
import Derived.RangeFuncCalls
import Derived.RangeFuncLeaves
import Derived.Shelf.Abstract
import Derived.Shelf.RegionOpen
import Derived.OwnWalkIn
import Derived.TacticsInMore
import Derived.LoopNIn
import Derived.LoopIn
import Derived.RegionIn
namespace Go.Proofs.Ytpkhddnehhophaa
open Go.RowKit Go.Shelf
set_option linter.unusedVariables false
attribute [local go_sem] Oper.semAt_some

section
variable {F : Fence} {n : Nat} {P : Program} {ops : Array Oper} {Q : Exit → Act → World → Prop} {a : Act} {w w2 : World} {rest : List Oper} {o : Oper}
theorem wpListIn_run (hgd : o.guard = none) (hab : o.about P w a.eval = none) (hsem : o.semAt F.round a.eval = execOp a.eval o) (v : Value)
    (hrun : (execOp a.eval o).run P w = .ok (.value v) w2) (h : wpListIn F n P ops Q rest (a.put o.dst v) w2) : wpListIn F n P ops Q (o :: rest) a w :=
  wpListIn_plain hgd fun K hK => ⟨fun f hf => (by rw [hab] at hf; cases hf), by rw [hsem, hrun]; exact hK _ _ h⟩
theorem wpListIn_run0 (hgd : o.guard = none) (hab : o.about P w a.eval = none) (hsem : o.semAt F.round a.eval = execOp a.eval o)
    (hrun : (execOp a.eval o).run P w = .ok .skip w2) (h : wpListIn F n P ops Q rest (a.put o.dst undef) w2) : wpListIn F n P ops Q (o :: rest) a w :=
  wpListIn_plain hgd fun K hK => ⟨fun f hf => (by rw [hab] at hf; cases hf), by rw [hsem, hrun]; exact hK _ _ h⟩

variable {md : Region.Mode} {fuel : Nat} {listed : Array Bool} {w3 : World} {i j : Nat} {rs : List Nat}
theorem opIn_run {K : Act → World → Prop} (hnc : ∀ c, o.op ≠ .call c) (hnd : ∀ c, o.op ≠ .defer c) (hg : o.guard = none) (v : Value) (hrun : (execOp a.eval o).run P w = .ok (.value v) w2) (h : K (a.put o.dst v) w2) :
    Oper.wpIn F n P o a w K Q := by
  have hab : o.about P w a.eval = none := by
    unfold Oper.about
    cases ho : o.op <;> first | rfl | exact absurd ho (hnc _)
  have hsem : o.semAt F.round a.eval = execOp a.eval o := by
    cases hr : F.round with
    | none => exact Oper.semAt_none _ _
    | some l => exact Oper.semAt_some l _ _ hnd
  exact ⟨fun f hf => (by rw [hab] at hf; cases hf), by rw [hsem, hrun]; exact h⟩
theorem AllReadyIn.op (d : Option Tmp) (opr : Op) (ho : (ops[i]?).map (fun o => (o.dst, o.op, o.guard)) = some (d, opr, none)) (hnc : ∀ c, opr ≠ .call c) (hnd : ∀ c, opr ≠ .defer c) (v : Value)
    (hrun : ∀ o : Oper, o.op = opr → (execOp a.eval o).run P w = .ok (.value v) w2) (h : wpAnyIn F n P md ops Q fuel (listed.setIfInBounds i true) (a.put d v) w2)
    (hs : AllReadyIn F n P md ops Q fuel listed a w rs) : AllReadyIn F n P md ops Q fuel listed a w (i :: rs) := by
  cases hq : ops[i]? with
  | none => simp [hq] at ho
  | some o =>
    simp [hq] at ho
    obtain ⟨rfl, rfl, hg⟩ := ho
    exact AllReadyIn.cons hq (fun K' hK => by rw [if_pos (by simp [Region.wanted, hg])]; exact opIn_run hnc hnd hg v (hrun o rfl) (hK _ _ h)) hs
theorem anyIn_one (i : Nat) (d : Option Tmp) (opr : Op) (hr : Region.ready md ops listed = [i]) (ho : (ops[i]?).map (fun o => (o.dst, o.op, o.guard)) = some (d, opr, none)) (hnc : ∀ c, opr ≠ .call c) (hnd : ∀ c, opr ≠ .defer c) (v : Value)
    (hrun : ∀ o : Oper, o.op = opr → (execOp a.eval o).run P w = .ok (.value v) w2) (h : wpAnyIn F n P md ops Q fuel (listed.setIfInBounds i true) (a.put d v) w2) : wpAnyIn F n P md ops Q (fuel + 1) listed a w :=
  wpAnyIn_ready hr (by simp) (AllReadyIn.op d opr ho hnc hnd v hrun h AllReadyIn.nil)
theorem anyIn_two (i j : Nat) (d : Option Tmp) (opr : Op) (d2 : Option Tmp) (opr2 : Op) (hr : Region.ready md ops listed = [i, j]) (ho : (ops[i]?).map (fun o => (o.dst, o.op, o.guard)) = some (d, opr, none))
    (ho2 : (ops[j]?).map (fun o => (o.dst, o.op, o.guard)) = some (d2, opr2, none)) (hnc : ∀ c, opr ≠ .call c) (hnd : ∀ c, opr ≠ .defer c) (hnc2 : ∀ c, opr2 ≠ .call c) (hnd2 : ∀ c, opr2 ≠ .defer c) (v v2 : Value)
    (hrun : ∀ o : Oper, o.op = opr → (execOp a.eval o).run P w = .ok (.value v) w2) (hrun2 : ∀ o : Oper, o.op = opr2 → (execOp a.eval o).run P w = .ok (.value v2) w3)
    (h : wpAnyIn F n P md ops Q fuel (listed.setIfInBounds i true) (a.put d v) w2) (h2 : wpAnyIn F n P md ops Q fuel (listed.setIfInBounds j true) (a.put d2 v2) w3) : wpAnyIn F n P md ops Q (fuel + 1) listed a w :=
  wpAnyIn_ready hr (by simp) (AllReadyIn.op d opr ho hnc hnd v hrun h (AllReadyIn.op d2 opr2 ho2 hnc2 hnd2 v2 hrun2 h2 AllReadyIn.nil))
theorem anyIn_take (i : Nat) (d : Option Tmp) (opr : Op) (v : Value) (ho : (ops[i]?).map (fun o => (o.dst, o.op, o.guard)) = some (d, opr, none)) (hnc : ∀ c, opr ≠ .call c) (hro : F.round = none) (hs : Region.noSelect ops = true) (hf : Region.free md ops listed i = true) (hr : (Region.ready md ops listed).contains i = true)
    (hQ : ∀ c a w, Q (.panic c) (a.put d v) w → Q (.panic c) a w) (hy : ∀ (o : Oper), o.op = opr → ∀ w, (execOp a.eval o).run P w = .ok (.value v) w)
    (h : wpAnyIn F n P md ops Q fuel (listed.setIfInBounds i true) (a.put d v) w) : wpAnyIn F n P md ops Q (fuel + 1) listed a w := by
  cases hq : ops[i]? with
  | none => simp [hq] at ho
  | some o =>
    simp [hq] at ho
    obtain ⟨rfl, rfl, hg⟩ := ho
    refine wpAnyIn_take hro hq hs hf hr hQ ⟨Or.inl ⟨by simp [Region.wanted, hg], hy o rfl⟩, fun w => ?_⟩ h
    unfold Oper.about
    cases ho : o.op <;> first | rfl | exact absurd ho (hnc _)
theorem AllReadyIn.yield (d : Option Tmp) (f : Operand) (args : Array Operand) (tys : Array TypeId) (ho : (ops[i]?).map (fun o => (o.dst, o.op, o.guard)) = some (d, .call { callee := .value f, args := args, argTypes := tys }, none))
    (l : Nat) (hf : a.eval f = .func (.yield l) #[] #[]) (avs : Array Value) (has : args.map a.eval = avs) (R : Ending → World → Prop) (hy : YieldAt F (n - 1) P l avs w R) (hn : 1 ≤ n)
    (hK : ∀ v w', R (.returned v) w' → wpAnyIn F n P md ops Q fuel (listed.setIfInBounds i true) (a.put d v) w') (hnp : ∀ c w', ¬ R (.panicked c) w') (hno : ∀ w', ¬ R .outgrown w')
    (hs : AllReadyIn F n P md ops Q fuel listed a w rs) : AllReadyIn F n P md ops Q fuel listed a w (i :: rs) := by
  cases hq : ops[i]? with
  | none => simp [hq] at ho
  | some o =>
    simp [hq] at ho
    obtain ⟨rfl, hop, hg⟩ := ho
    refine AllReadyIn.cons hq (fun K' hK' => ?_) hs
    rw [if_pos (by simp [Region.wanted, hg])]
    obtain ⟨fn, tmps, assign, body, hrun, hR⟩ := hy
    have hsem : o.semAt F.round a.eval = execOp a.eval o := by
      cases hr : F.round with
      | none => exact Oper.semAt_none _ _
      | some l => exact Oper.semAt_some l _ _ (fun c => by rw [hop]; exact fun e => by cases e)
    have hres : (resolve a.eval { callee := .value f, args := args, argTypes := tys } o.type).run P w = .ok { target := .fn (.yield l) #[], args := avs } w := by
      simp [resolve, hf, has, Deferred.ofValue]
    refine ⟨fun f' hf' => ?_, ?_⟩
    · unfold Oper.about at hf'
      simp only [hop, hres] at hf'
      simp [Target.leads] at hf'
    · rw [hsem]
      have hx : (execOp a.eval o).run P w = .ok (.round l fn tmps assign body) w := by
        unfold execOp
        simp only [hop, Sem.run_bind, hres, Result.andThen_ok, invoke]
        exact hrun
      rw [hx, Oper.uponIn_round]
      refine ⟨fun _ => hn, hR.mono ?_⟩
      intro e w' hr
      cases e with
      | returned v => exact hK' _ _ (hK v w' hr)
      | panicked c => exact (hnp c w' hr).elim
      | outgrown => exact (hno w' hr).elim
end

/-- What the iterator hands its rounds: the loose write's number, the sector's place. -/
def encIt (bs : Nat) (loose : List (Nat × List UInt8)) (x : Fin loose.length) : Array Value := #[.int .i64 (x.1 : Int), .pointer (some ⟨bs, loose[x].1 * 128, none⟩)]

def KpIt (b g Bp : Nat) (W W' : World) : Prop := W.heap.size ≤ W'.heap.size ∧ W'.heap[b]? = W.heap[b]? ∧ W'.heap[g]? = W.heap[g]? ∧ W'.heap[Bp]? = W.heap[Bp]?

theorem KpIt.trans {b g Bp : Nat} {A B C : World} (h : KpIt b g Bp A B) (k : KpIt b g Bp B C) : KpIt b g Bp A C :=
  ⟨Nat.le_trans h.1 k.1, k.2.1.trans h.2.1, k.2.2.1.trans h.2.2.1, k.2.2.2.trans h.2.2.2⟩
theorem KpIt.new {b g Bp : Nat} (w : World) (o : Obj) (hb : b < w.heap.size) (hg : g < w.heap.size) (hB : Bp < w.heap.size) : KpIt b g Bp w (w.alloc o).drew :=
  ⟨by simp, Below.heap_alloc _ _ _ hb, Below.heap_alloc _ _ _ hg, Below.heap_alloc _ _ _ hB⟩
theorem exec_fieldAddr67_0 {ρ : Operand → Value} {o : Oper} (x : Operand) (ho : o.op = .fieldAddr 67 x 0) (b : Nat) (hx : ρ x = .pointer (some ⟨b, 0, none⟩)) (w : World) : (execOp ρ o).run Try.prog w = .ok (.value (.pointer (some ⟨b, 0, none⟩))) w := by
  unfold execOp
  simp [ho, hx, go_sem]

theorem exec_not {ρ : Operand → Value} {o : Oper} (t : TypeId) (x : Operand) (ho : o.op = .unOp .not t x) (v : Bool) (hx : ρ x = .bool v) (w : World) : (execOp ρ o).run Try.prog w = .ok (.value (.bool (!v))) w := by
  unfold execOp
  simp [ho, hx, go_sem]

theorem written_in (p : Option Addr) (w : World) :
    CallsIn Fence.wide 4 Try.prog 31 #[.pointer p] w fun e w' => e = .returned (.func (.func 34) #[] #[.pointer (some ⟨w.heap.size, 0, none⟩)]) ∧ w.alloc (.cells #[.pointer p] 28) = w' := by
  refine callsIn_of_wp Try.func31 rfl trivial ?_ rfl
  simp only [Try.ntmps31, List.size_toArray, List.length_cons, List.length_nil, Nat.reduceAdd, Nat.reduceSub, Array.replicate_succ, Array.replicate_zero, List.push_toArray, List.append_toArray, List.nil_append, List.cons_append]
  gi_wp2
  go_ret
  exact ⟨rfl, rfl⟩

/-- The first k of them. -/
def firsts (m k : Nat) (hk : k ≤ m) : List (Fin m) := (List.finRange k).map fun x => ⟨x.1, by omega⟩
theorem firsts_length (m k : Nat) (hk : k ≤ m) : (firsts m k hk).length = k := by simp [firsts]
theorem firsts_succ (m k : Nat) (hk : k + 1 ≤ m) : firsts m (k + 1) hk = firsts m k (by omega) ++ [⟨k, by omega⟩] := by
  simp [firsts, List.finRange_succ_last]
theorem firsts_all (m : Nat) : firsts m m (Nat.le_refl _) = List.finRange m := by simp [firsts]

set_option maxHeartbeats 1000000 in
theorem iter_in (l Bp b bs g n cap : Nat) (loose : List (Nat × List UInt8)) (hlx : ∀ x ∈ loose, x.1 < n ∧ x.2.length = 64) (hn : n ≤ 4096) (hm : loose.length ≤ 1000000) (J Jx : List (Fin loose.length) → World → Prop)
    (hJal : ∀ pre W o, J pre W → J pre (World.alloc W o)) (hJdr : ∀ pre W, J pre W → J pre W.drew)
    (hY : ∀ pre x W, J pre W → pre.length < loose.length → YieldAt Fence.wide 3 Try.prog l (encIt bs loose x) W fun e W' =>
      (e = .returned (.bool true) ∧ J (pre ++ [x]) W' ∧ KpIt b g Bp W W') ∨ (e = .returned (.bool false) ∧ Jx (pre ++ [x]) W'))
    (W : World) (hbox : W.cell? ⟨Bp, 0, none⟩ = some (.pointer (some ⟨b, 0, none⟩))) (c0 : W.cell? ⟨b, 0, none⟩ = some (.slice (some ⟨bs, 0, none⟩) n n)) (c1 : W.cell? ⟨b, 1, none⟩ = some (.slice (some ⟨g, 0, none⟩) loose.length cap))
    (hrow : Hid (∀ k (hk : k < loose.length), ∀ j v, (wrow loose[k].1 loose[k].2)[j]? = some v → W.cell? ⟨g, k * 65 + j, none⟩ = some v)) (h0 : J [] W)
    (hbW : b < W.heap.size) (hgW : g < W.heap.size) (hBW : Bp < W.heap.size) :
    CallsIn Fence.wide 4 Try.prog 34 #[.func (.yield l) #[] #[], .pointer (some ⟨Bp, 0, none⟩)] W fun e W' => (∃ v, e = .returned v) ∧ ((∃ xs, xs = List.finRange loose.length ∧ J xs W') ∨ (∃ pre, True ∧ Jx pre W')) := by
  refine callsIn_of_wp Try.func34 rfl trivial ?_ rfl
  simp only [Try.ntmps34, List.size_toArray, List.length_cons, List.length_nil, Nat.reduceAdd, Nat.reduceSub, Array.replicate_succ, Array.replicate_zero, List.push_toArray, List.append_toArray, List.nil_append, List.cons_append]
  gi_wp2
  gi_loopw [10] (fun i wr => ∃ k : Nat, ∃ hk : k ≤ loose.length, i = .int .i64 k ∧ J (firsts loose.length k hk) wr ∧ KpIt b g Bp W wr)
    (fun i _ => loose.length - (intOf i).toNat)
  case atStart => exact ⟨0, Nat.zero_le _, rfl, h0, Nat.le_refl _, rfl, rfl, rfl⟩
  case round =>
    obtain ⟨k, hk, rfl, hJs, hsz, hb', hg', hBp'⟩ := hrel
    by_cases hlt : k < loose.length
    · have hbox2 : wr.cell? ⟨Bp, 0, none⟩ = some (.pointer (some ⟨b, 0, none⟩)) := (World.cell?_of_block (w := W) (a := ⟨Bp, 0, none⟩) hBp').trans hbox
      have c02 : wr.cell? ⟨b, 0, none⟩ = some (.slice (some ⟨bs, 0, none⟩) n n) := (World.cell?_of_block (w := W) (a := ⟨b, 0, none⟩) hb').trans c0
      have hrow2 : Hid (∀ j v, (wrow loose[k].1 loose[k].2)[j]? = some v → wr.cell? ⟨g, k * 65 + j, none⟩ = some v) := fun j v hv => (World.cell?_of_block (w := W) (a := ⟨g, k * 65 + j, none⟩) hg').trans (hrow.out k hlt j v hv)
      have hx := hlx loose[k] (List.getElem_mem hlt)
      have hsz67 : Hid ((Try.prog.info? 67).map (·.size) = some (wrow loose[k].1 loose[k].2).length) := by unfold Hid; rw [size67, wrow_length, hx.2]
      have hz0 : Hid ((wrow 0 z64).toArray.size = (wrow loose[k].1 loose[k].2).length) := by unfold Hid; rw [List.size_toArray, wrow_length, wrow_length, hx.2, z64_length]
      have hxn := hx.1
      have HY := Lib.hid (hY (firsts loose.length k hk) (⟨k, hlt⟩ : Fin loose.length) ((wr.alloc (.cells (wrow loose[k].1 loose[k].2).toArray 67)).drew) (hJdr _ _ (hJal _ _ _ hJs)) (by rw [firsts_length]; exact hlt))
      clear hx hJs hY hJal hJdr hlx h0 hbox c0 c1
      have hszs : wr.heap.size = wr.heap.size := rfl
      have y1 : Hid (((wr.alloc (.cells (wrow loose[k].1 loose[k].2).toArray 67)).drew).cell? ⟨Bp, 0, none⟩ = some (.pointer (some ⟨b, 0, none⟩))) := (World.cell?_of_block (w := wr) (a := ⟨Bp, 0, none⟩) (Below.heap_alloc wr _ Bp (by omega))).trans hbox2
      have y2 : Hid (((wr.alloc (.cells (wrow loose[k].1 loose[k].2).toArray 67)).drew).cell? ⟨b, 0, none⟩ = some (.slice (some ⟨bs, 0, none⟩) n n)) := (World.cell?_of_block (w := wr) (a := ⟨b, 0, none⟩) (Below.heap_alloc wr _ b (by omega))).trans c02
      have y3 : Hid (((wr.alloc (.cells (wrow loose[k].1 loose[k].2).toArray 67)).drew).cell? ⟨wr.heap.size, 0, none⟩ = some (.int .i64 (loose[k].1 : Int))) := seg_of_row (w := ((wr.alloc (.cells (wrow loose[k].1 loose[k].2).toArray 67)).drew)) (heap_alloc_new wr _) 0 (wrow loose[k].1 loose[k].2) (fun j _ => by rw [Nat.zero_add]) 0 _ rfl
      have hKw : Hid (KpIt b g Bp W wr) := ⟨hsz, hb', hg', hBp'⟩
      have hKs : Hid (b < wr.heap.size ∧ g < wr.heap.size ∧ Bp < wr.heap.size) := ⟨by omega, by omega, by omega⟩
      clear hszs hsz hb' hg' hBp'
      gi_wp2_with (first | (refine wpListIn_run rfl rfl rfl _ (exec_load_seg _ 67 (.tmp 13) rfl g (k * 65) rfl (wrow loose[k].1 loose[k].2) _ hrow2.out Try.underlying67 rfl hsz67.out) ?_) | (refine wpListIn_run rfl rfl rfl _ (exec_alloc_agg _ 67 rfl _ (zero67 _)) ?_) | (refine wpListIn_run0 rfl rfl rfl (exec_store_new wr 67 (.tmp 4) (.tmp 14) rfl _ _ rfl (wrow loose[k].1 loose[k].2) rfl hz0.out (wrow_one _ _) hsz67.out) ?_))
      refine wpIn_region_any (by kernel_rfl) ?_
      change wpAnyIn _ _ _ _ _ _ _ _ _ (World.drew _)
      refine anyIn_take 0 (some 15) (.move (.tmp 0)) (.func (.yield l) #[] #[]) rfl (fun _ e => by cases e) rfl (by kernel_rfl) (by kernel_rfl) (by kernel_rfl) (fun _ _ _ h => h) (fun o ho w => exec_move (.tmp 0) ho _ rfl w) ?_
      simp only [Act.put, List.setIfInBounds_toArray, List.set_cons_succ, List.set_cons_zero]
      refine anyIn_take 1 (some 16) (.move (.tmp 3)) (.int .i64 k) rfl (fun _ e => by cases e) rfl (by kernel_rfl) (by kernel_rfl) (by kernel_rfl) (fun _ _ _ h => h) (fun o ho w => exec_move (.tmp 3) ho _ rfl w) ?_
      simp only [Act.put, List.setIfInBounds_toArray, List.set_cons_succ, List.set_cons_zero]
      refine anyIn_take 6 (some 21) (.fieldAddr 67 (.tmp 4) 0) (.pointer (some ⟨wr.heap.size, 0, none⟩)) rfl (fun _ e => by cases e) rfl (by kernel_rfl) (by kernel_rfl) (by kernel_rfl) (fun _ _ _ h => h) (fun o ho w => exec_fieldAddr67_0 (.tmp 4) ho wr.heap.size rfl w) ?_
      simp only [Act.put, List.setIfInBounds_toArray, List.set_cons_succ, List.set_cons_zero]
      refine anyIn_two 2 7 (some 17) (.load 28 (.tmp 1)) (some 22) (.load 3 (.tmp 21)) (by kernel_rfl) rfl rfl (fun _ e => by cases e) (fun _ e => by cases e) (fun _ e => by cases e) (fun _ e => by cases e) _ _ (fun o ho => exec_load_one _ 28 (.tmp 1) ho ⟨Bp, 0, none⟩ rfl _ y1.out _ Try.underlying28 rfl) (fun o ho => exec_load_one _ 3 (.tmp 21) ho ⟨wr.heap.size, 0, none⟩ rfl _ y3.out _ Try.underlying3 rfl) ?_ ?_
      · simp only [Act.put, List.setIfInBounds_toArray, List.set_cons_succ, List.set_cons_zero]
        refine anyIn_take 3 (some 18) (.nilCheck (.tmp 17)) (.pointer (some ⟨b, 0, none⟩)) rfl (fun _ e => by cases e) rfl (by kernel_rfl) (by kernel_rfl) (by kernel_rfl) (fun _ _ _ h => h) (fun o ho w => exec_nilCheck (.tmp 17) ho ⟨b, 0, none⟩ rfl w) ?_
        simp only [Act.put, List.setIfInBounds_toArray, List.set_cons_succ, List.set_cons_zero]
        refine anyIn_take 4 (some 19) (.fieldAddr 62 (.tmp 18) 0) (.pointer (some ⟨b, 0, none⟩)) rfl (fun _ e => by cases e) rfl (by kernel_rfl) (by kernel_rfl) (by kernel_rfl) (fun _ _ _ h => h) (fun o ho w => exec_fieldAddr62_0 (.tmp 18) ho b rfl w) ?_
        simp only [Act.put, List.setIfInBounds_toArray, List.set_cons_succ, List.set_cons_zero]
        refine anyIn_two 5 7 (some 20) (.load 59 (.tmp 19)) (some 22) (.load 3 (.tmp 21)) (by kernel_rfl) rfl rfl (fun _ e => by cases e) (fun _ e => by cases e) (fun _ e => by cases e) (fun _ e => by cases e) _ _ (fun o ho => exec_load_one _ 59 (.tmp 19) ho ⟨b, 0, none⟩ rfl _ y2.out _ Try.underlying59 rfl) (fun o ho => exec_load_one _ 3 (.tmp 21) ho ⟨wr.heap.size, 0, none⟩ rfl _ y3.out _ Try.underlying3 rfl) ?_ ?_
        · simp only [Act.put, List.setIfInBounds_toArray, List.set_cons_succ, List.set_cons_zero]
          refine anyIn_one 7 (some 22) (.load 3 (.tmp 21)) (by kernel_rfl) rfl (fun _ e => by cases e) (fun _ e => by cases e) _ (fun o ho => exec_load_one _ 3 (.tmp 21) ho ⟨wr.heap.size, 0, none⟩ rfl _ y3.out _ Try.underlying3 rfl) ?_
          simp only [Act.put, List.setIfInBounds_toArray, List.set_cons_succ, List.set_cons_zero]
          refine anyIn_one 8 (some 23) (.indexAddr 59 (.tmp 20) (.tmp 22)) (by kernel_rfl) rfl (fun _ e => by cases e) (fun _ e => by cases e) _ (fun o ho => exec_indexAddr59 (.tmp 20) (.tmp 22) ho bs n loose[k].1 rfl rfl hxn _) ?_
          simp only [Act.put, List.setIfInBounds_toArray, List.set_cons_succ, List.set_cons_zero]
          refine wpAnyIn_ready (rs := [9]) (by kernel_rfl) (by simp) (AllReadyIn.yield (some 24) (.tmp 15) #[.tmp 16, .tmp 23] #[3, 73] rfl l rfl (encIt bs loose ⟨k, hlt⟩) (by simp [Act.eval, encIt]) _ HY.out (by omega) ?_ (fun c w' h => by rcases h with ⟨h, -⟩ | ⟨h, -⟩ <;> cases h) (fun w' h => by rcases h with ⟨h, -⟩ | ⟨h, -⟩ <;> cases h) AllReadyIn.nil)
          rintro v w3 (⟨he, hJ3, hk3⟩ | ⟨he, hJx3⟩)
          · obtain rfl : v = .bool true := by injection he
            clear he
            simp only [Act.put, List.setIfInBounds_toArray, List.set_cons_succ, List.set_cons_zero]
            refine anyIn_one 10 (some 25) (.unOp .not 4 (.tmp 24)) (by kernel_rfl) rfl (fun _ e => by cases e) (fun _ e => by cases e) _ (fun o ho => exec_not 4 (.tmp 24) ho true rfl _) ?_
            simp only [Act.put, List.setIfInBounds_toArray, List.set_cons_succ, List.set_cons_zero]
            refine wpAnyIn_done (by kernel_rfl) ?_ _
            have HJ3 := Lib.hid hJ3
            have HK3 := Lib.hid hk3
            clear hJ3 hk3
            gi_wp2
            go_roundw
            case rel => exact ⟨k + 1, by omega, by simp, by rw [firsts_succ]; exact HJ3.out, KpIt.trans hKw.out (KpIt.trans (KpIt.new _ _ hKs.out.1 hKs.out.2.1 hKs.out.2.2) HK3.out)⟩
            case measure => simp [intOf]; omega
          · obtain rfl : v = .bool false := by injection he
            clear he
            simp only [Act.put, List.setIfInBounds_toArray, List.set_cons_succ, List.set_cons_zero]
            refine anyIn_one 10 (some 25) (.unOp .not 4 (.tmp 24)) (by kernel_rfl) rfl (fun _ e => by cases e) (fun _ e => by cases e) _ (fun o ho => exec_not 4 (.tmp 24) ho false rfl _) ?_
            simp only [Act.put, List.setIfInBounds_toArray, List.set_cons_succ, List.set_cons_zero]
            refine wpAnyIn_done (by kernel_rfl) ?_ _
            have HJ3 := Lib.hid hJx3
            clear hJx3
            gi_wp2
            refine bodyPost_ret (results_none rfl _ _ _) rfl ?_
            exact ⟨⟨_, rfl⟩, Or.inr ⟨_, trivial, HJ3.out⟩⟩
        · simp only [Act.put, List.setIfInBounds_toArray, List.set_cons_succ, List.set_cons_zero]
          refine anyIn_one 5 (some 20) (.load 59 (.tmp 19)) (by kernel_rfl) rfl (fun _ e => by cases e) (fun _ e => by cases e) _ (fun o ho => exec_load_one _ 59 (.tmp 19) ho ⟨b, 0, none⟩ rfl _ y2.out _ Try.underlying59 rfl) ?_
          simp only [Act.put, List.setIfInBounds_toArray, List.set_cons_succ, List.set_cons_zero]
          refine anyIn_one 8 (some 23) (.indexAddr 59 (.tmp 20) (.tmp 22)) (by kernel_rfl) rfl (fun _ e => by cases e) (fun _ e => by cases e) _ (fun o ho => exec_indexAddr59 (.tmp 20) (.tmp 22) ho bs n loose[k].1 rfl rfl hxn _) ?_
          simp only [Act.put, List.setIfInBounds_toArray, List.set_cons_succ, List.set_cons_zero]
          refine wpAnyIn_ready (rs := [9]) (by kernel_rfl) (by simp) (AllReadyIn.yield (some 24) (.tmp 15) #[.tmp 16, .tmp 23] #[3, 73] rfl l rfl (encIt bs loose ⟨k, hlt⟩) (by simp [Act.eval, encIt]) _ HY.out (by omega) ?_ (fun c w' h => by rcases h with ⟨h, -⟩ | ⟨h, -⟩ <;> cases h) (fun w' h => by rcases h with ⟨h, -⟩ | ⟨h, -⟩ <;> cases h) AllReadyIn.nil)
          rintro v w3 (⟨he, hJ3, hk3⟩ | ⟨he, hJx3⟩)
          · obtain rfl : v = .bool true := by injection he
            clear he
            simp only [Act.put, List.setIfInBounds_toArray, List.set_cons_succ, List.set_cons_zero]
            refine anyIn_one 10 (some 25) (.unOp .not 4 (.tmp 24)) (by kernel_rfl) rfl (fun _ e => by cases e) (fun _ e => by cases e) _ (fun o ho => exec_not 4 (.tmp 24) ho true rfl _) ?_
            simp only [Act.put, List.setIfInBounds_toArray, List.set_cons_succ, List.set_cons_zero]
            refine wpAnyIn_done (by kernel_rfl) ?_ _
            have HJ3 := Lib.hid hJ3
            have HK3 := Lib.hid hk3
            clear hJ3 hk3
            gi_wp2
            go_roundw
            case rel => exact ⟨k + 1, by omega, by simp, by rw [firsts_succ]; exact HJ3.out, KpIt.trans hKw.out (KpIt.trans (KpIt.new _ _ hKs.out.1 hKs.out.2.1 hKs.out.2.2) HK3.out)⟩
            case measure => simp [intOf]; omega
          · obtain rfl : v = .bool false := by injection he
            clear he
            simp only [Act.put, List.setIfInBounds_toArray, List.set_cons_succ, List.set_cons_zero]
            refine anyIn_one 10 (some 25) (.unOp .not 4 (.tmp 24)) (by kernel_rfl) rfl (fun _ e => by cases e) (fun _ e => by cases e) _ (fun o ho => exec_not 4 (.tmp 24) ho false rfl _) ?_
            simp only [Act.put, List.setIfInBounds_toArray, List.set_cons_succ, List.set_cons_zero]
            refine wpAnyIn_done (by kernel_rfl) ?_ _
            have HJ3 := Lib.hid hJx3
            clear hJx3
            gi_wp2
            refine bodyPost_ret (results_none rfl _ _ _) rfl ?_
            exact ⟨⟨_, rfl⟩, Or.inr ⟨_, trivial, HJ3.out⟩⟩
      · simp only [Act.put, List.setIfInBounds_toArray, List.set_cons_succ, List.set_cons_zero]
        refine anyIn_one 2 (some 17) (.load 28 (.tmp 1)) (by kernel_rfl) rfl (fun _ e => by cases e) (fun _ e => by cases e) _ (fun o ho => exec_load_one _ 28 (.tmp 1) ho ⟨Bp, 0, none⟩ rfl _ y1.out _ Try.underlying28 rfl) ?_
        simp only [Act.put, List.setIfInBounds_toArray, List.set_cons_succ, List.set_cons_zero]
        refine anyIn_take 3 (some 18) (.nilCheck (.tmp 17)) (.pointer (some ⟨b, 0, none⟩)) rfl (fun _ e => by cases e) rfl (by kernel_rfl) (by kernel_rfl) (by kernel_rfl) (fun _ _ _ h => h) (fun o ho w => exec_nilCheck (.tmp 17) ho ⟨b, 0, none⟩ rfl w) ?_
        simp only [Act.put, List.setIfInBounds_toArray, List.set_cons_succ, List.set_cons_zero]
        refine anyIn_take 4 (some 19) (.fieldAddr 62 (.tmp 18) 0) (.pointer (some ⟨b, 0, none⟩)) rfl (fun _ e => by cases e) rfl (by kernel_rfl) (by kernel_rfl) (by kernel_rfl) (fun _ _ _ h => h) (fun o ho w => exec_fieldAddr62_0 (.tmp 18) ho b rfl w) ?_
        simp only [Act.put, List.setIfInBounds_toArray, List.set_cons_succ, List.set_cons_zero]
        refine anyIn_one 5 (some 20) (.load 59 (.tmp 19)) (by kernel_rfl) rfl (fun _ e => by cases e) (fun _ e => by cases e) _ (fun o ho => exec_load_one _ 59 (.tmp 19) ho ⟨b, 0, none⟩ rfl _ y2.out _ Try.underlying59 rfl) ?_
        simp only [Act.put, List.setIfInBounds_toArray, List.set_cons_succ, List.set_cons_zero]
        refine anyIn_one 8 (some 23) (.indexAddr 59 (.tmp 20) (.tmp 22)) (by kernel_rfl) rfl (fun _ e => by cases e) (fun _ e => by cases e) _ (fun o ho => exec_indexAddr59 (.tmp 20) (.tmp 22) ho bs n loose[k].1 rfl rfl hxn _) ?_
        simp only [Act.put, List.setIfInBounds_toArray, List.set_cons_succ, List.set_cons_zero]
        refine wpAnyIn_ready (rs := [9]) (by kernel_rfl) (by simp) (AllReadyIn.yield (some 24) (.tmp 15) #[.tmp 16, .tmp 23] #[3, 73] rfl l rfl (encIt bs loose ⟨k, hlt⟩) (by simp [Act.eval, encIt]) _ HY.out (by omega) ?_ (fun c w' h => by rcases h with ⟨h, -⟩ | ⟨h, -⟩ <;> cases h) (fun w' h => by rcases h with ⟨h, -⟩ | ⟨h, -⟩ <;> cases h) AllReadyIn.nil)
        rintro v w3 (⟨he, hJ3, hk3⟩ | ⟨he, hJx3⟩)
        · obtain rfl : v = .bool true := by injection he
          clear he
          simp only [Act.put, List.setIfInBounds_toArray, List.set_cons_succ, List.set_cons_zero]
          refine anyIn_one 10 (some 25) (.unOp .not 4 (.tmp 24)) (by kernel_rfl) rfl (fun _ e => by cases e) (fun _ e => by cases e) _ (fun o ho => exec_not 4 (.tmp 24) ho true rfl _) ?_
          simp only [Act.put, List.setIfInBounds_toArray, List.set_cons_succ, List.set_cons_zero]
          refine wpAnyIn_done (by kernel_rfl) ?_ _
          have HJ3 := Lib.hid hJ3
          have HK3 := Lib.hid hk3
          clear hJ3 hk3
          gi_wp2
          go_roundw
          case rel => exact ⟨k + 1, by omega, by simp, by rw [firsts_succ]; exact HJ3.out, KpIt.trans hKw.out (KpIt.trans (KpIt.new _ _ hKs.out.1 hKs.out.2.1 hKs.out.2.2) HK3.out)⟩
          case measure => simp [intOf]; omega
        · obtain rfl : v = .bool false := by injection he
          clear he
          simp only [Act.put, List.setIfInBounds_toArray, List.set_cons_succ, List.set_cons_zero]
          refine anyIn_one 10 (some 25) (.unOp .not 4 (.tmp 24)) (by kernel_rfl) rfl (fun _ e => by cases e) (fun _ e => by cases e) _ (fun o ho => exec_not 4 (.tmp 24) ho false rfl _) ?_
          simp only [Act.put, List.setIfInBounds_toArray, List.set_cons_succ, List.set_cons_zero]
          refine wpAnyIn_done (by kernel_rfl) ?_ _
          have HJ3 := Lib.hid hJx3
          clear hJx3
          gi_wp2
          refine bodyPost_ret (results_none rfl _ _ _) rfl ?_
          exact ⟨⟨_, rfl⟩, Or.inr ⟨_, trivial, HJ3.out⟩⟩
    · have hkl : k = loose.length := by omega
      have HJ : Hid (J (List.finRange loose.length) wr) := by subst hkl; unfold Hid; rw [← firsts_all]; exact hJs
      clear hJs hY hJal hJdr hlx h0 hbox c0 c1 hb' hg' hBp' hsz hrow
      subst hkl
      gi_wp2
      go_end0
      exact ⟨⟨_, rfl⟩, .inl ⟨_, rfl, HJ.out⟩⟩

end Go.Proofs.Ytpkhddnehhophaa
