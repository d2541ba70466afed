/- What take of package sha does to a state that lies in memory: it goes on by the whole blocks of a text. -/
import Derived.Test.YtjkbbndiickcnaaDoorIter
import Derived.Test.YtjkbbndiickcnaaDoorBehindA
namespace Go.Proofs.YtjkbbndiickcnaaDoor
open Go.RowKit Go.Shelf
set_option linter.unusedVariables false
attribute [local go_sem] Oper.semAt_some

theorem kpIt_b {Bp : Nat} {w0 : World} (hB : Bp < w0.heap.size) (W : World) (l : Nat) (o o' : Obj) (hl : w0.heap.size ≤ l) (_ : W.heap[l]? = some o) (_ : o.isCells = false) (_ : o.isWalk = false) : KpIt Bp W (W.putObj l o') := by
  have hk := grownBy_putObj' W l o'
  exact ⟨hk.size, World.putObj_heap_other (by omega)⟩
theorem setRow_others {W : World} {g : Nat} {cs : Array Value} {cur : Array Value} {t : TypeId} {fr : Nat × Nat} (hg : W.heap[g]? = some (.cells cur t fr)) : KeepsOthers W (W.setRow g cs) :=
  KeepsOthers.of_grownBy (row := some g) ⟨rfl, rfl, rfl, by simp, fun k _ hk => setRow_other _ _ _ _ (fun e => hk (by rw [e]))⟩ (fun j o e ho => by cases e; rw [hg] at ho; cases ho; rfl)
theorem below_others {W W' : World} (h : Below W.heap.size W W') : KeepsOthers W W' :=
  KeepsOthers.of_grownBy (row := none) ⟨h.os, h.tape, h.output, h.size, fun k hk _ => h.block k hk⟩ (fun j o e => by cases e)

/-- The eight behind some blocks, one behind the other. -/
def foldC (s : ByteArray) (st : St) (pre : List (Fin (s.size / 64))) : St := pre.foldl (fun m x => comp m (chunk s.data.toList x.1)) st
theorem foldC_snoc (s : ByteArray) (st : St) (pre : List (Fin (s.size / 64))) (x : Fin (s.size / 64)) : foldC s st (pre ++ [x]) = comp (foldC s st pre) (chunk s.data.toList x.1) := by
  unfold foldC; rw [List.foldl_append]; rfl
theorem foldC_firsts (s : ByteArray) (st : St) : ∀ (k : Nat) (hk : k ≤ s.size / 64), foldC s st (firsts (s.size / 64) k hk) = mids st s.data.toList k
  | 0, _ => rfl
  | k + 1, hk => by rw [firsts_succ, foldC_snoc, foldC_firsts s st k (by omega)]; rfl
theorem foldC_all (s : ByteArray) (st : St) : foldC s st (List.finRange (s.size / 64)) = mids st s.data.toList (s.size / 64) := by
  rw [← firsts_all, foldC_firsts]
theorem foldC_ok (s : ByteArray) {st : St} (h : st.ok) : ∀ (pre : List (Fin (s.size / 64))), (foldC s st pre).ok := by
  intro pre
  unfold foldC
  induction pre generalizing st with
  | nil => exact h
  | cons x l ih => exact ih (comp_ok _ _)
theorem extract_chunk (s : ByteArray) (k : Nat) : (s.extract (64 * k) (64 * k + 64)).data.toList = chunk s.data.toList k := by
  rw [ByteArray.data_extract, Array.toList_extract, List.extract_eq_take_drop]
  unfold chunk
  rw [show 64 * k + 64 - 64 * k = 64 by omega]
/-- The rounds' invariant: but for the state's block nothing that was there has turned; its first eight are those behind so many blocks. -/
def InvT (w0 : World) (b : Nat) (s : ByteArray) (st : St) (r : List Value) (pre : List (Fin (s.size / 64))) (W : World) : Prop :=
  Fr (fun k => k = b) w0 W ∧ W.heap[b]? = some (.cells (cells (foldC s st pre) ++ r).toArray 42 (0, 0))
theorem invT_own {w0 : World} {b : Nat} {s : ByteArray} {st : St} {r : List Value} (hb : b < w0.heap.size) : OwnFrom w0.heap.size (InvT w0 b s st r) := by
  rintro p W W' row ⟨hf, hc⟩ hg hr
  have hne : ∀ k, k < w0.heap.size → W'.heap[k]? = W.heap[k]? := fun k hk => hg.block k (Nat.lt_of_lt_of_le hk hf.size) (fun e => by have := (hr k e.symm).1; omega)
  exact ⟨⟨hg.os.trans hf.os, hg.tape.trans hf.tape, hg.output.trans hf.output, Nat.le_trans hf.size hg.size, fun k hk hS => (hne k hk).trans (hf.block k hk hS)⟩, (hne b hb).trans hc⟩

theorem size42f (s : List Value) (h : s.length = 8) : (Tryd.prog.info? 39).map (·.size) = some s.length := by rw [h]; kernel_rfl
theorem exec_fieldAddr42_0 {ρ : Operand → Value} {o : Oper} (x : Operand) (ho : o.op = .fieldAddr 42 x 0) (b : Nat) (hx : ρ x = .pointer (some ⟨b, 0, none⟩)) (w : World) : (execOp ρ o).run Tryd.prog w = .ok (.value (.pointer (some ⟨b, 0, none⟩))) w := by
  unfold execOp
  simp [ho, hx, go_sem]
theorem splice_head (c c2 r : List Value) (h : c.length = c2.length) : splice (c ++ r).toArray 0 c2 = (c2 ++ r).toArray := by
  unfold splice
  simp [← h]

section
variable {F : Fence} {n : Nat} {P : Program} {ops : Array Oper} {Q : Exit → Act → World → Prop} {a : Act} {w w2 : World} {md : Region.Mode} {fuel : Nat} {listed : Array Bool} {i : Nat} {rs : List Nat}
theorem AllReadyIn.op0 (opr : Op) (ho : (ops[i]?).map (fun o => (o.dst, o.op, o.guard)) = some (none, opr, none)) (hnc : ∀ c, opr ≠ .call c) (hnd : ∀ c, opr ≠ .defer c)
    (hrun : ∀ o : Oper, o.op = opr → (execOp a.eval o).run P w = .ok .skip w2) (h : wpAnyIn F n P md ops Q fuel (listed.setIfInBounds i true) a w2)
    (hs : AllReadyIn F n P md ops Q fuel listed a w rs) : AllReadyIn F n P md ops Q fuel listed a w (i :: rs) := by
  cases hq : ops[i]? with
  | none => simp [hq] at ho
  | some o =>
    simp [hq] at ho
    obtain ⟨hd, rfl, hg⟩ := ho
    refine AllReadyIn.cons hq (fun K' hK => ?_) hs
    rw [if_pos (by simp [Region.wanted, hg])]
    have hab : o.about P w a.eval = none := by
      unfold Oper.about
      cases ho : o.op <;> first | rfl | exact absurd ho (hnc _)
    have hsem : o.semAt F.round a.eval = execOp a.eval o := by
      cases hr : F.round with
      | none => exact Oper.semAt_none _ _
      | some l => exact Oper.semAt_some l _ _ hnd
    refine ⟨fun f hf => (by rw [hab] at hf; cases hf), ?_⟩
    rw [hsem, hrun o rfl, Oper.uponIn_skip]
    have : a.put o.dst undef = a := by rw [hd]; rfl
    rw [this]
    exact hK _ _ h
theorem AllReadyIn.call (d : Option Tmp) (g : FuncId) (args : Array Operand) (tys : Array TypeId) (ho : (ops[i]?).map (fun o => (o.dst, o.op, o.guard)) = some (d, .call { callee := .value (.func g), args := args, argTypes := tys }, none))
    (hro : F.round = none) (hfn : ∀ g, F.fn g) (avs : Array Value) (has : args.map a.eval = avs) (eg : ∀ args w, (callFunc g args).run P w = .ok (.enter g args) w) (R : Ending → World → Prop) (hc : CallsIn F (n - 1) P g avs w R) (hn : 1 ≤ n)
    (hK : ∀ v w', R (.returned v) w' → wpAnyIn F n P md ops Q fuel (listed.setIfInBounds i true) (a.put d v) w') (hnp : ∀ c w', ¬ R (.panicked c) w') (hno : ∀ w', ¬ R .outgrown w')
    (hs : AllReadyIn F n P md ops Q fuel listed a w rs) : AllReadyIn F n P md ops Q fuel listed a w (i :: rs) := by
  cases hq : ops[i]? with
  | none => simp [hq] at ho
  | some o =>
    simp [hq] at ho
    obtain ⟨rfl, hop, hg⟩ := ho
    refine AllReadyIn.cons hq (fun K' hK' => ?_) hs
    rw [if_pos (by simp [Region.wanted, hg])]
    exact opIn_call hro g args tys hop hfn avs has eg R hc hn (fun v w' hr => hK' _ _ (hK v w' hr)) hnp hno
end
def noDefer (ops : Array Oper) : Bool := ops.all fun o => match o.op with | .defer _ => false | _ => true
theorem noDefer_spec {ops : Array Oper} (h : noDefer ops = true) : ∀ (i : Nat) (o : Oper), ops[i]? = some o → ∀ c, o.op ≠ Op.defer c := by
  intro i o ho c hc
  unfold noDefer at h
  rw [Array.all_eq_true] at h
  obtain ⟨hi, he⟩ := Array.getElem?_eq_some_iff.1 ho
  have := h i hi
  rw [he, hc] at this
  cases this

theorem iter_stops (s : ByteArray) (hs : s.size ≤ 9223372036854775000) (w : World) :
    SeqStopsK Fence.wide 4 Tryd.prog 32 #[.pointer (some ⟨w.heap.size, 0, none⟩)] (encIt s) (KpIt w.heap.size) (fun xs => xs = List.finRange (s.size / 64)) (fun _ => True) (s.size / 64) (w.alloc (.cells #[.string s] 9)) := by
  intro l J Jx W hW hJ hJx hY h0
  have hbox : W.cell? ⟨w.heap.size, 0, none⟩ = some (.string s) := by
    rw [hW.cell (p := ⟨w.heap.size, 0, none⟩) (by simp), cell_of_row _ w.heap.size 0 _ _ _ (heap_alloc_new w _)]
    rfl
  exact iter_in l w.heap.size s hs J Jx hY W hbox h0

set_option maxRecDepth 100000 in
set_option maxHeartbeats 1000000 in
theorem take_any (b : Nat) (st : St) (hst : st.ok) (r : List Value) (s : ByteArray) (hs : s.size ≤ 9223372036854775000) (w : World) (hG : Glob w) (hb2 : 2 ≤ b)
    (hc : w.heap[b]? = some (.cells (cells st ++ r).toArray 42 (0, 0)))
    (HBe : Hid (∀ (s : St) (hs : s.ok) (blk : ByteArray) (hb : blk.size = 64) (w : World) (hG : Glob w), Calls Tryd.prog 31 #[.agg (cells s).toArray, .string blk] w fun e w' => e = .returned (.agg (cells (comp s blk.data.toList)).toArray) ∧ Below w.heap.size w w')) :
    Calls Tryd.prog 23 #[.pointer (some ⟨b, 0, none⟩), .string s] w fun e w' => (∃ v, e = .returned v) ∧ Fr (fun k => k = b) w w' ∧ w'.heap[b]? = some (.cells (cells (mids st s.data.toList (s.size / 64)) ++ r).toArray 42 (0, 0)) := by
  refine (callsIn_wide (n := 5)).1 ?_
  have hbN : b < w.heap.size := lt_of_block hc
  have STOPS := iter_stops s hs (w.alloc (.cells #[.pointer (some ⟨b, 0, none⟩)] 31))
  rw [World.size_alloc] at STOPS
  refine callsIn_of_wp_marks Tryd.func23 rfl trivial ?_ rfl
  simp only [Tryd.ntmps23, List.size_toArray, List.length_cons, List.length_nil, Nat.reduceAdd, Nat.reduceSub, Array.replicate_succ, Array.replicate_zero, List.push_toArray, List.append_toArray, List.nil_append, List.cons_append]
  gi_wp2_with (refine ⟨trivial, ?_⟩; gi_at_call 30; refine (blocks_in _ _).mono ?_; rintro e w' ⟨rfl, rfl⟩)
  refine wpIn_rangeFunc_ownF rfl (by omega) (gf := 32) (lb := #[.pointer (some ⟨w.heap.size + 1, 0, none⟩)]) rfl trivial (enters_of Tryd.func32 (by kernel_rfl) rfl) STOPS
    (fun h1 h2 => KpIt.trans h1 h2) (kpIt_b (by simp)) (Below.refl _ _) (fun _ => rfl)
    (InvT ((w.alloc (.cells #[.pointer (some ⟨b, 0, none⟩)] 31)).alloc (.cells #[.string s] 9)) b s st r) (fun _ _ _ => False)
    (invT_own (by simp <;> omega)) (fun _ _ _ _ _ hs _ _ => hs)
    ⟨Fr.refl _ _, by rw [Below.heap_alloc _ _ _ (by simp <;> omega), Below.heap_alloc _ _ _ hbN]; exact hc⟩
    (fun x => { tmps := #[.pointer (some ⟨b, 0, none⟩), .string s, .pointer (some ⟨w.heap.size, 0, none⟩), undef, .string (s.extract (64 * x.1) (64 * x.1 + 64)), .string s, .func (.func 32) #[] #[.pointer (some ⟨w.heap.size + 1, 0, none⟩)], .string (s.extract (64 * x.1) (64 * x.1 + 64)), undef, undef, undef, undef, undef, undef, undef, undef, undef], defers := [] }) ?assign ?body ?done ?stop
  case assign =>
    intro l x W K hK
    clear STOPS
    unfold encIt
    gi_wp2
    exact hK
  case body =>
    rintro l pre x W ⟨hf, hc2⟩ hpl
    clear STOPS
    have hx := x.2
    obtain ⟨m, hm⟩ : ∃ m, Hid (m = foldC s st pre) := ⟨_, Lib.hid rfl⟩
    obtain ⟨blk, hblk⟩ : ∃ blk, Hid (blk = s.extract (64 * x.1) (64 * x.1 + 64)) := ⟨_, Lib.hid rfl⟩
    obtain ⟨m2, hm2⟩ : ∃ m2, Hid (m2 = comp m blk.data.toList) := ⟨_, Lib.hid rfl⟩
    have hbs : blk.size = 64 := by rw [hblk.out]; simp; omega
    have hGW : Glob W := by
      refine ⟨?_, ?_⟩
      · rw [hf.block 0 (by simp <;> omega) (by omega), Below.heap_alloc _ _ _ (by simp <;> omega), Below.heap_alloc _ _ _ (by omega)]; exact hG.1
      · rw [hf.block 1 (by simp <;> omega) (by omega), Below.heap_alloc _ _ _ (by simp <;> omega), Below.heap_alloc _ _ _ (by omega)]; exact hG.2
    rw [← hm.out] at hc2
    have HC : Hid (Calls Tryd.prog 31 #[.agg (cells m).toArray, .string blk] W.drew fun e w' => e = .returned (.agg (cells m2).toArray) ∧ Below W.heap.size W.drew w') := by
      unfold Hid; rw [hm2.out]
      exact HBe.out m (by rw [hm.out]; exact foldC_ok s hst pre) blk hbs W.drew hGW
    have hbx : Hid (W.drew.cell? ⟨w.heap.size, 0, none⟩ = some (.pointer (some ⟨b, 0, none⟩))) := by
      have h1 : W.heap[w.heap.size]? = some (.cells #[.pointer (some ⟨b, 0, none⟩)] 31 (0, 0)) := by
        rw [hf.block w.heap.size (by simp <;> omega) (by omega), Below.heap_alloc _ _ _ (by simp <;> omega)]
        exact heap_alloc_new w _
      have h2 := cell_of_row W w.heap.size 0 _ _ _ h1
      exact h2
    have hbW : b < W.heap.size := lt_of_block hc2
    have hwW : w.heap.size < W.heap.size := by have := hf.size; simp at this; omega
    have HBX : Hid (∀ w3, Below W.heap.size W.drew w3 → w3.cell? ⟨w.heap.size, 0, none⟩ = some (.pointer (some ⟨b, 0, none⟩))) := fun w3 hb => (hb.cell (p := ⟨w.heap.size, 0, none⟩) hwW).trans hbx.out
    have hseg : Hid (∀ j v, (cells m)[j]? = some v → W.drew.cell? ⟨b, 0 + j, none⟩ = some v) := by
      intro j v hv
      have h2 := cell_of_row W b (0 + j) _ _ _ hc2
      refine Eq.trans h2 ?_
      rw [Nat.zero_add, List.getElem?_toArray, List.getElem?_append_left (by
        rcases Nat.lt_or_ge j (cells m).length with h | h
        · exact h
        · rw [List.getElem?_eq_none h] at hv; cases hv)]
      exact hv
    have hsz : Hid ((Tryd.prog.info? 39).map (·.size) = some (cells m).length) := Lib.hid (size42f _ rfl)
    have hsz2 : Hid ((Tryd.prog.info? 39).map (·.size) = some (cells m2).length) := Lib.hid (size42f _ rfl)
    have hone : Hid (∀ v ∈ cells m2, v.oneCell' = true) := Lib.hid (cells_one _)
    have hfit : Hid (0 + (cells m2).length ≤ (cells m ++ r).toArray.size) := by
      unfold Hid
      rw [List.size_toArray, List.length_append]
      show 0 + 8 ≤ 8 + _
      omega
    have HPOST : Hid (∀ w3, Below W.heap.size W.drew w3 → w3.heap[b]? = some (.cells (cells m ++ r).toArray 42 (0, 0)) ∧ (KeepsOthers W (w3.setRow b (splice (cells m ++ r).toArray 0 (cells m2))) ∧ KpIt (w.heap.size + 1) W (w3.setRow b (splice (cells m ++ r).toArray 0 (cells m2))) ∧
        InvT ((w.alloc (.cells #[.pointer (some ⟨b, 0, none⟩)] 31)).alloc (.cells #[.string s] 9)) b s st r (pre ++ [x]) (w3.setRow b (splice (cells m ++ r).toArray 0 (cells m2))))) := by
      intro w3 hb
      have hb' : Below W.heap.size W w3 := ⟨hb.os, hb.tape, hb.output, hb.size, hb.block⟩
      have hrow : w3.heap[b]? = some (.cells (cells m ++ r).toArray 42 (0, 0)) := (hb'.block b hbW).trans hc2
      refine ⟨hrow, (below_others hb').trans (setRow_others hrow), ?_, ?_⟩
      · refine ⟨Nat.le_trans hb'.size (by simp), ?_⟩
        rw [setRow_other _ _ _ _ (by omega)]
        exact hb'.block _ (by have := hf.size; simp at this; omega)
      · refine ⟨(hf.trans ⟨hb'.os, hb'.tape, hb'.output, hb'.size, fun k hk _ => hb'.block k hk⟩).setRow rfl _, ?_⟩
        rw [setRow_heap _ _ _ _ _ _ hrow, splice_head (cells m) (cells m2) r rfl, foldC_snoc, ← hm.out, hm2.out, hblk.out, extract_chunk]
    have EG : Hid (∀ args w, (callFunc 31 args).run Tryd.prog w = .ok (.enter 31 args) w) := Lib.hid (enters_of Tryd.func31 (by kernel_rfl) rfl)
    rw [← hblk.out]
    clear hf hc2 hGW hbs hbW hwW hx hpl hm hm2 hblk hc hG HBe hst hs hbN
    gi_wp2
    refine wpIn_region_any (by kernel_rfl) ?_
    change wpAnyIn _ _ _ _ _ _ _ _ _ (World.drew _)
    refine anyIn_unround l rfl (noDefer_spec (by kernel_rfl)) _ _ _ _ ?_
    refine anyIn_take 5 (some 13) (.move (.tmp 4)) (.string blk) rfl (fun _ e => by cases e) rfl (by kernel_rfl) (by kernel_rfl) (by kernel_rfl) (fun _ _ _ h => h) (fun o ho w => exec_move (.tmp 4) ho _ rfl w) ?_
    simp only [Act.put, List.setIfInBounds_toArray, List.set_cons_succ, List.set_cons_zero]
    refine wpAnyIn_ready (rs := [0, 1]) (by kernel_rfl) (by simp) (AllReadyIn.op (some 8) (.load 31 (.tmp 2)) rfl (fun _ e => by cases e) (fun _ e => by cases e) _ (fun o ho => exec_load_one _ 31 (.tmp 2) ho ⟨w.heap.size, 0, none⟩ rfl _ hbx.out _ Tryd.underlying31 rfl) ?_ (AllReadyIn.op (some 9) (.load 31 (.tmp 2)) rfl (fun _ e => by cases e) (fun _ e => by cases e) _ (fun o ho => exec_load_one _ 31 (.tmp 2) ho ⟨w.heap.size, 0, none⟩ rfl _ hbx.out _ Tryd.underlying31 rfl) ?_ AllReadyIn.nil))
    · simp only [Act.put, List.setIfInBounds_toArray, List.set_cons_succ, List.set_cons_zero]
      refine wpAnyIn_ready (rs := [1]) (by kernel_rfl) (by simp) (AllReadyIn.op (some 9) (.load 31 (.tmp 2)) rfl (fun _ e => by cases e) (fun _ e => by cases e) _ (fun o ho => exec_load_one _ 31 (.tmp 2) ho ⟨w.heap.size, 0, none⟩ rfl _ hbx.out _ Tryd.underlying31 rfl) ?_ AllReadyIn.nil)
      simp only [Act.put, List.setIfInBounds_toArray, List.set_cons_succ, List.set_cons_zero]
      refine anyIn_take 2 (some 10) (.nilCheck (.tmp 9)) (.pointer (some ⟨b, 0, none⟩)) rfl (fun _ e => by cases e) rfl (by kernel_rfl) (by kernel_rfl) (by kernel_rfl) (fun _ _ _ h => h) (fun o ho w => exec_nilCheck (.tmp 9) ho ⟨b, 0, none⟩ rfl w) ?_
      simp only [Act.put, List.setIfInBounds_toArray, List.set_cons_succ, List.set_cons_zero]
      refine anyIn_take 3 (some 11) (.fieldAddr 42 (.tmp 10) 0) (.pointer (some ⟨b, 0, none⟩)) rfl (fun _ e => by cases e) rfl (by kernel_rfl) (by kernel_rfl) (by kernel_rfl) (fun _ _ _ h => h) (fun o ho w => exec_fieldAddr42_0 (.tmp 10) ho b rfl w) ?_
      simp only [Act.put, List.setIfInBounds_toArray, List.set_cons_succ, List.set_cons_zero]
      refine wpAnyIn_ready (rs := [4]) (by kernel_rfl) (by simp) (AllReadyIn.op (some 12) (.load 39 (.tmp 11)) rfl (fun _ e => by cases e) (fun _ e => by cases e) _ (fun o ho => exec_load_seg _ 39 (.tmp 11) ho b 0 rfl (cells m) _ hseg.out Tryd.underlying39 rfl hsz.out) ?_ AllReadyIn.nil)
      simp only [Act.put, List.setIfInBounds_toArray, List.set_cons_succ, List.set_cons_zero]
      refine wpAnyIn_ready (rs := [6]) (by kernel_rfl) (by simp) (AllReadyIn.call (some 14) 31 #[.tmp 12, .tmp 13] #[39, 9] rfl rfl (fun _ => trivial) #[.agg (cells m).toArray, .string blk] (by simp [Act.eval]) EG.out _ ((callsIn_wide (n := _)).2 HC.out) (by omega) ?_ (fun c w' h => by cases h.1) (fun w' h => by cases h.1) AllReadyIn.nil)
      rintro v w3 ⟨he, hB3⟩
      cases he
      simp only [Act.put, List.setIfInBounds_toArray, List.set_cons_succ, List.set_cons_zero]
      refine anyIn_take 7 (some 15) (.nilCheck (.tmp 8)) (.pointer (some ⟨b, 0, none⟩)) rfl (fun _ e => by cases e) rfl (by kernel_rfl) (by kernel_rfl) (by kernel_rfl) (fun _ _ _ h => h) (fun o ho w => exec_nilCheck (.tmp 8) ho ⟨b, 0, none⟩ rfl w) ?_
      simp only [Act.put, List.setIfInBounds_toArray, List.set_cons_succ, List.set_cons_zero]
      refine anyIn_take 8 (some 16) (.fieldAddr 42 (.tmp 15) 0) (.pointer (some ⟨b, 0, none⟩)) rfl (fun _ e => by cases e) rfl (by kernel_rfl) (by kernel_rfl) (by kernel_rfl) (fun _ _ _ h => h) (fun o ho w => exec_fieldAddr42_0 (.tmp 15) ho b rfl w) ?_
      simp only [Act.put, List.setIfInBounds_toArray, List.set_cons_succ, List.set_cons_zero]
      refine wpAnyIn_ready (rs := [9]) (by kernel_rfl) (by simp) (AllReadyIn.op0 (.store 39 (.tmp 16) (.tmp 14)) rfl (fun _ e => by cases e) (fun _ e => by cases e) (fun o ho => exec_store_seg w3 39 (.tmp 16) (.tmp 14) ho b 0 rfl (cells m2) rfl _ 42 (HPOST.out w3 hB3).1 hfit.out hone.out hsz2.out) ?_ AllReadyIn.nil)
      refine wpAnyIn_done (by kernel_rfl) ?_ _
      exact (HPOST.out w3 hB3).2
    · simp only [Act.put, List.setIfInBounds_toArray, List.set_cons_succ, List.set_cons_zero]
      refine anyIn_take 2 (some 10) (.nilCheck (.tmp 9)) (.pointer (some ⟨b, 0, none⟩)) rfl (fun _ e => by cases e) rfl (by kernel_rfl) (by kernel_rfl) (by kernel_rfl) (fun _ _ _ h => h) (fun o ho w => exec_nilCheck (.tmp 9) ho ⟨b, 0, none⟩ rfl w) ?_
      simp only [Act.put, List.setIfInBounds_toArray, List.set_cons_succ, List.set_cons_zero]
      refine anyIn_take 3 (some 11) (.fieldAddr 42 (.tmp 10) 0) (.pointer (some ⟨b, 0, none⟩)) rfl (fun _ e => by cases e) rfl (by kernel_rfl) (by kernel_rfl) (by kernel_rfl) (fun _ _ _ h => h) (fun o ho w => exec_fieldAddr42_0 (.tmp 10) ho b rfl w) ?_
      simp only [Act.put, List.setIfInBounds_toArray, List.set_cons_succ, List.set_cons_zero]
      refine wpAnyIn_ready (rs := [0, 4]) (by kernel_rfl) (by simp) (AllReadyIn.op (some 8) (.load 31 (.tmp 2)) rfl (fun _ e => by cases e) (fun _ e => by cases e) _ (fun o ho => exec_load_one _ 31 (.tmp 2) ho ⟨w.heap.size, 0, none⟩ rfl _ hbx.out _ Tryd.underlying31 rfl) ?_ (AllReadyIn.op (some 12) (.load 39 (.tmp 11)) rfl (fun _ e => by cases e) (fun _ e => by cases e) _ (fun o ho => exec_load_seg _ 39 (.tmp 11) ho b 0 rfl (cells m) _ hseg.out Tryd.underlying39 rfl hsz.out) ?_ AllReadyIn.nil))
      · simp only [Act.put, List.setIfInBounds_toArray, List.set_cons_succ, List.set_cons_zero]
        refine wpAnyIn_ready (rs := [4]) (by kernel_rfl) (by simp) (AllReadyIn.op (some 12) (.load 39 (.tmp 11)) rfl (fun _ e => by cases e) (fun _ e => by cases e) _ (fun o ho => exec_load_seg _ 39 (.tmp 11) ho b 0 rfl (cells m) _ hseg.out Tryd.underlying39 rfl hsz.out) ?_ AllReadyIn.nil)
        simp only [Act.put, List.setIfInBounds_toArray, List.set_cons_succ, List.set_cons_zero]
        refine wpAnyIn_ready (rs := [6]) (by kernel_rfl) (by simp) (AllReadyIn.call (some 14) 31 #[.tmp 12, .tmp 13] #[39, 9] rfl rfl (fun _ => trivial) #[.agg (cells m).toArray, .string blk] (by simp [Act.eval]) EG.out _ ((callsIn_wide (n := _)).2 HC.out) (by omega) ?_ (fun c w' h => by cases h.1) (fun w' h => by cases h.1) AllReadyIn.nil)
        rintro v w3 ⟨he, hB3⟩
        cases he
        simp only [Act.put, List.setIfInBounds_toArray, List.set_cons_succ, List.set_cons_zero]
        refine anyIn_take 7 (some 15) (.nilCheck (.tmp 8)) (.pointer (some ⟨b, 0, none⟩)) rfl (fun _ e => by cases e) rfl (by kernel_rfl) (by kernel_rfl) (by kernel_rfl) (fun _ _ _ h => h) (fun o ho w => exec_nilCheck (.tmp 8) ho ⟨b, 0, none⟩ rfl w) ?_
        simp only [Act.put, List.setIfInBounds_toArray, List.set_cons_succ, List.set_cons_zero]
        refine anyIn_take 8 (some 16) (.fieldAddr 42 (.tmp 15) 0) (.pointer (some ⟨b, 0, none⟩)) rfl (fun _ e => by cases e) rfl (by kernel_rfl) (by kernel_rfl) (by kernel_rfl) (fun _ _ _ h => h) (fun o ho w => exec_fieldAddr42_0 (.tmp 15) ho b rfl w) ?_
        simp only [Act.put, List.setIfInBounds_toArray, List.set_cons_succ, List.set_cons_zero]
        refine wpAnyIn_ready (rs := [9]) (by kernel_rfl) (by simp) (AllReadyIn.op0 (.store 39 (.tmp 16) (.tmp 14)) rfl (fun _ e => by cases e) (fun _ e => by cases e) (fun o ho => exec_store_seg w3 39 (.tmp 16) (.tmp 14) ho b 0 rfl (cells m2) rfl _ 42 (HPOST.out w3 hB3).1 hfit.out hone.out hsz2.out) ?_ AllReadyIn.nil)
        refine wpAnyIn_done (by kernel_rfl) ?_ _
        exact (HPOST.out w3 hB3).2
      · simp only [Act.put, List.setIfInBounds_toArray, List.set_cons_succ, List.set_cons_zero]
        refine wpAnyIn_ready (rs := [0, 6]) (by kernel_rfl) (by simp) (AllReadyIn.op (some 8) (.load 31 (.tmp 2)) rfl (fun _ e => by cases e) (fun _ e => by cases e) _ (fun o ho => exec_load_one _ 31 (.tmp 2) ho ⟨w.heap.size, 0, none⟩ rfl _ hbx.out _ Tryd.underlying31 rfl) ?_ (AllReadyIn.call (some 14) 31 #[.tmp 12, .tmp 13] #[39, 9] rfl rfl (fun _ => trivial) #[.agg (cells m).toArray, .string blk] (by simp [Act.eval]) EG.out _ ((callsIn_wide (n := _)).2 HC.out) (by omega) ?_ (fun c w' h => by cases h.1) (fun w' h => by cases h.1) AllReadyIn.nil))
        · simp only [Act.put, List.setIfInBounds_toArray, List.set_cons_succ, List.set_cons_zero]
          refine wpAnyIn_ready (rs := [6]) (by kernel_rfl) (by simp) (AllReadyIn.call (some 14) 31 #[.tmp 12, .tmp 13] #[39, 9] rfl rfl (fun _ => trivial) #[.agg (cells m).toArray, .string blk] (by simp [Act.eval]) EG.out _ ((callsIn_wide (n := _)).2 HC.out) (by omega) ?_ (fun c w' h => by cases h.1) (fun w' h => by cases h.1) AllReadyIn.nil)
          rintro v w3 ⟨he, hB3⟩
          cases he
          simp only [Act.put, List.setIfInBounds_toArray, List.set_cons_succ, List.set_cons_zero]
          refine anyIn_take 7 (some 15) (.nilCheck (.tmp 8)) (.pointer (some ⟨b, 0, none⟩)) rfl (fun _ e => by cases e) rfl (by kernel_rfl) (by kernel_rfl) (by kernel_rfl) (fun _ _ _ h => h) (fun o ho w => exec_nilCheck (.tmp 8) ho ⟨b, 0, none⟩ rfl w) ?_
          simp only [Act.put, List.setIfInBounds_toArray, List.set_cons_succ, List.set_cons_zero]
          refine anyIn_take 8 (some 16) (.fieldAddr 42 (.tmp 15) 0) (.pointer (some ⟨b, 0, none⟩)) rfl (fun _ e => by cases e) rfl (by kernel_rfl) (by kernel_rfl) (by kernel_rfl) (fun _ _ _ h => h) (fun o ho w => exec_fieldAddr42_0 (.tmp 15) ho b rfl w) ?_
          simp only [Act.put, List.setIfInBounds_toArray, List.set_cons_succ, List.set_cons_zero]
          refine wpAnyIn_ready (rs := [9]) (by kernel_rfl) (by simp) (AllReadyIn.op0 (.store 39 (.tmp 16) (.tmp 14)) rfl (fun _ e => by cases e) (fun _ e => by cases e) (fun o ho => exec_store_seg w3 39 (.tmp 16) (.tmp 14) ho b 0 rfl (cells m2) rfl _ 42 (HPOST.out w3 hB3).1 hfit.out hone.out hsz2.out) ?_ AllReadyIn.nil)
          refine wpAnyIn_done (by kernel_rfl) ?_ _
          exact (HPOST.out w3 hB3).2
        · rintro v w3 ⟨he, hB3⟩
          cases he
          simp only [Act.put, List.setIfInBounds_toArray, List.set_cons_succ, List.set_cons_zero]
          refine wpAnyIn_ready (rs := [0]) (by kernel_rfl) (by simp) (AllReadyIn.op (some 8) (.load 31 (.tmp 2)) rfl (fun _ e => by cases e) (fun _ e => by cases e) _ (fun o ho => exec_load_one _ 31 (.tmp 2) ho ⟨w.heap.size, 0, none⟩ rfl _ (HBX.out w3 hB3) _ Tryd.underlying31 rfl) ?_ AllReadyIn.nil)
          simp only [Act.put, List.setIfInBounds_toArray, List.set_cons_succ, List.set_cons_zero]
          refine anyIn_take 7 (some 15) (.nilCheck (.tmp 8)) (.pointer (some ⟨b, 0, none⟩)) rfl (fun _ e => by cases e) rfl (by kernel_rfl) (by kernel_rfl) (by kernel_rfl) (fun _ _ _ h => h) (fun o ho w => exec_nilCheck (.tmp 8) ho ⟨b, 0, none⟩ rfl w) ?_
          simp only [Act.put, List.setIfInBounds_toArray, List.set_cons_succ, List.set_cons_zero]
          refine anyIn_take 8 (some 16) (.fieldAddr 42 (.tmp 15) 0) (.pointer (some ⟨b, 0, none⟩)) rfl (fun _ e => by cases e) rfl (by kernel_rfl) (by kernel_rfl) (by kernel_rfl) (fun _ _ _ h => h) (fun o ho w => exec_fieldAddr42_0 (.tmp 15) ho b rfl w) ?_
          simp only [Act.put, List.setIfInBounds_toArray, List.set_cons_succ, List.set_cons_zero]
          refine wpAnyIn_ready (rs := [9]) (by kernel_rfl) (by simp) (AllReadyIn.op0 (.store 39 (.tmp 16) (.tmp 14)) rfl (fun _ e => by cases e) (fun _ e => by cases e) (fun o ho => exec_store_seg w3 39 (.tmp 16) (.tmp 14) ho b 0 rfl (cells m2) rfl _ 42 (HPOST.out w3 hB3).1 hfit.out hone.out hsz2.out) ?_ AllReadyIn.nil)
          refine wpAnyIn_done (by kernel_rfl) ?_ _
          exact (HPOST.out w3 hB3).2
  case done =>
    rintro D' ys W hD rfl ⟨hf, hc2⟩ hK
    have hDN : w.heap.size + 2 ≤ D' := by simpa using hD
    have hfin : Fr (fun k => k = b) w (W.putObj D' (.deferred none)) ∧ (W.putObj D' (.deferred none)).heap[b]? = some (.cells (cells (mids st s.data.toList (s.size / 64)) ++ r).toArray 42 (0, 0)) := by
      have ho : ∀ k, k ≠ D' → (W.putObj D' (.deferred none)).heap[k]? = W.heap[k]? := fun k h1 => World.putObj_heap_other h1
      refine ⟨⟨hf.os, hf.tape, hf.output, ?_, ?_⟩, ?_⟩
      · have := hf.size; simp at this ⊢; omega
      · intro k hk hk2
        rw [ho k (by omega), hf.block k (by simp <;> omega) hk2, Below.heap_alloc _ _ _ (by simp <;> omega), Below.heap_alloc _ _ _ hk]
      · rw [ho b (by omega), hc2, foldC_all]
    have HF := Lib.hid hfin
    have HK := Lib.hid hK
    clear hfin hK hf hc2 STOPS hc hG HBe hst
    gi_wp2
    refine ⟨by simp, .inl ⟨_, _, rfl, run_takeDeferred HK.out, ?_⟩⟩
    exact ⟨_, results_none rfl _ _ _, ⟨_, rfl⟩, HF.out⟩
  case stop =>
    rintro D' c pre W _ _ h' _
    exact h'.elim
end Go.Proofs.YtjkbbndiickcnaaDoor
