/- Several texts, one behind the other; each says by itself what it proves, and on what conditions. -/
import Derived.Test.YtdbbcngolcnniaaGreatDoorY16
import Derived.Deep.DeepCutAuto
import Derived.Deep.CutBlock
/- What take of package sha does to a state that lies in memory: it goes on by the whole blocks of a text. -/
namespace Go.Proofs.YtdbbcngolcnniaaGreatDoor.S3
set_option linter.unusedSimpArgs false
open Go.RowKit Go.Shelf
set_option linter.unusedVariables false
attribute [local go_sem] Oper.semAt_some
theorem kpIt_b {Bp : Nat} {w0 : World} (hB : Bp < w0.heap.size) (W : World) (l : Nat) (o o' : Obj) (hl : w0.heap.size ≤ l) (_ : W.heap[l]? = some o) (_ : o.isCells = false) (_ : o.isWalk = false) : KpIt Bp W (W.putObj l o') := by
 have hk := grownBy_putObj' W l o'
 exact ⟨hk.size, World.putObj_heap_other (by omega)⟩
theorem setRow_others {W : World} {g : Nat} {cs : Array Value} {cur : Array Value} {t : TypeId} {fr : Nat × Nat} (hg : W.heap[g]? = some (.cells cur t fr)) : KeepsOthers W (W.setRow g cs) :=
 KeepsOthers.of_grownBy (row := some g) ⟨rfl, rfl, rfl, by simp, fun k _ hk => setRow_other _ _ _ _ (fun e => hk (by rw [e]))⟩ (fun j o e ho => by cases e; rw [hg] at ho; cases ho; rfl)
theorem below_others {W W' : World} (h : Below W.heap.size W W') : KeepsOthers W W' :=
 KeepsOthers.of_grownBy (row := none) ⟨h.os, h.tape, h.output, h.size, fun k hk _ => h.block k hk⟩ (fun j o e => by cases e)
def foldC (s : ByteArray) (st : St) (pre : List (Fin (s.size / 64))) : St := pre.foldl (fun m x => comp m (chunk s.data.toList x.1)) st
theorem foldC_snoc (s : ByteArray) (st : St) (pre : List (Fin (s.size / 64))) (x : Fin (s.size / 64)) : foldC s st (pre ++ [x]) = comp (foldC s st pre) (chunk s.data.toList x.1) := by
 unfold foldC; rw [List.foldl_append]; rfl
theorem foldC_firsts (s : ByteArray) (st : St) : ∀ (k : Nat) (hk : k ≤ s.size / 64), foldC s st (firsts (s.size / 64) k hk) = mids st s.data.toList k
 | 0, _ => rfl
 | k + 1, hk => by rw [firsts_succ, foldC_snoc, foldC_firsts s st k (by omega)]; rfl
theorem foldC_all (s : ByteArray) (st : St) : foldC s st (List.finRange (s.size / 64)) = mids st s.data.toList (s.size / 64) := by
 rw [← firsts_all, foldC_firsts]
theorem foldC_ok (s : ByteArray) {st : St} (h : st.ok) : ∀ (pre : List (Fin (s.size / 64))), (foldC s st pre).ok := by
 intro pre
 unfold foldC
 induction pre generalizing st with
 | nil => exact h
 | cons x l ih => exact ih (comp_ok _ _)
theorem extract_chunk (s : ByteArray) (k : Nat) : (s.extract (64 * k) (64 * k + 64)).data.toList = chunk s.data.toList k := by
 rw [ByteArray.data_extract, Array.toList_extract, List.extract_eq_take_drop]
 unfold chunk
 rw [show 64 * k + 64 - 64 * k = 64 by omega]
def InvT (w0 : World) (b : Nat) (s : ByteArray) (st : St) (r : List Value) (pre : List (Fin (s.size / 64))) (W : World) : Prop :=
 Fr (fun k => k = b) w0 W ∧ W.heap[b]? = some (.cells (cells (foldC s st pre) ++ r).toArray 51 (0, 0))
theorem invT_own {w0 : World} {b : Nat} {s : ByteArray} {st : St} {r : List Value} (hb : b < w0.heap.size) : OwnFrom w0.heap.size (InvT w0 b s st r) := by
 rintro p W W' row ⟨hf, hc⟩ hg hr
 have hne : ∀ k, k < w0.heap.size → W'.heap[k]? = W.heap[k]? := fun k hk => hg.block k (Nat.lt_of_lt_of_le hk hf.size) (fun e => by have := (hr k e.symm).1; omega)
 exact ⟨⟨hg.os.trans hf.os, hg.tape.trans hf.tape, hg.output.trans hf.output, Nat.le_trans hf.size hg.size, fun k hk hS => (hne k hk).trans (hf.block k hk hS)⟩, (hne b hb).trans hc⟩
theorem size42f (s : List Value) (h : s.length = 8) : (Tryz.prog.info? 48).map (·.size) = some s.length := by rw [h]; kernel_rfl
theorem exec_fieldAddr42_0 {ρ : Operand → Value} {o : Oper} (x : Operand) (ho : o.op = .fieldAddr 51 x 0) (b : Nat) (hx : ρ x = .pointer (some ⟨b, 0, none⟩)) (w : World) : (execOp ρ o).run Tryz.prog w = .ok (.value (.pointer (some ⟨b, 0, none⟩))) w := by
 unfold execOp
 simp [ho, hx, go_sem]
theorem splice_head (c c2 r : List Value) (h : c.length = c2.length) : splice (c ++ r).toArray 0 c2 = (c2 ++ r).toArray := by
 unfold splice
 simp [← h]
section
variable {F : Fence} {n : Nat} {P : Program} {ops : Array Oper} {Q : Exit → Act → World → Prop} {a : Act} {w w2 : World} {md : Region.Mode} {fuel : Nat} {listed : Array Bool} {i : Nat} {rs : List Nat}
theorem AllReadyIn.op0 (opr : Op) (ho : (ops[i]?).map (fun o => (o.dst, o.op, o.guard)) = some (none, opr, none)) (hnc : ∀ c, opr ≠ .call c) (hnd : ∀ c, opr ≠ .defer c)
  (hrun : ∀ o : Oper, o.op = opr → (execOp a.eval o).run P w = .ok .skip w2) (h : wpAnyIn F n P md ops Q fuel (listed.setIfInBounds i true) a w2)
  (hs : AllReadyIn F n P md ops Q fuel listed a w rs) : AllReadyIn F n P md ops Q fuel listed a w (i :: rs) := by
 cases hq : ops[i]? with
 | none => simp [hq] at ho
 | some o =>
  simp [hq] at ho
  obtain ⟨hd, rfl, hg⟩ := ho
  refine AllReadyIn.cons hq (fun K' hK => ?_) hs
  rw [if_pos (by simp [Region.wanted, hg])]
  have hab : o.about P w a.eval = none := by
   unfold Oper.about
   cases ho : o.op <;> first | rfl | exact absurd ho (hnc _)
  have hsem : o.semAt F.round a.eval = execOp a.eval o := by
   cases hr : F.round with
   | none => exact Oper.semAt_none _ _
   | some l => exact Oper.semAt_some l _ _ hnd
  refine ⟨fun f hf => (by rw [hab] at hf; cases hf), ?_⟩
  rw [hsem, hrun o rfl, Oper.uponIn_skip]
  have : a.put o.dst undef = a := by rw [hd]; rfl
  rw [this]
  exact hK _ _ h
theorem AllReadyIn.call (d : Option Tmp) (g : FuncId) (args : Array Operand) (tys : Array TypeId) (ho : (ops[i]?).map (fun o => (o.dst, o.op, o.guard)) = some (d, .call { callee := .value (.func g), args := args, argTypes := tys }, none))
  (hro : F.round = none) (hfn : ∀ g, F.fn g) (avs : Array Value) (has : args.map a.eval = avs) (eg : ∀ args w, (callFunc g args).run P w = .ok (.enter g args) w) (R : Ending → World → Prop) (hc : CallsIn F (n - 1) P g avs w R) (hn : 1 ≤ n)
  (hK : ∀ v w', R (.returned v) w' → wpAnyIn F n P md ops Q fuel (listed.setIfInBounds i true) (a.put d v) w') (hnp : ∀ c w', ¬ R (.panicked c) w') (hno : ∀ w', ¬ R .outgrown w')
  (hs : AllReadyIn F n P md ops Q fuel listed a w rs) : AllReadyIn F n P md ops Q fuel listed a w (i :: rs) := by
 cases hq : ops[i]? with
 | none => simp [hq] at ho
 | some o =>
  simp [hq] at ho
  obtain ⟨rfl, hop, hg⟩ := ho
  refine AllReadyIn.cons hq (fun K' hK' => ?_) hs
  rw [if_pos (by simp [Region.wanted, hg])]
  exact opIn_call hro g args tys hop hfn avs has eg R hc hn (fun v w' hr => hK' _ _ (hK v w' hr)) hnp hno
end
def noDefer (ops : Array Oper) : Bool := ops.all fun o => match o.op with | .defer _ => false | _ => true
theorem noDefer_spec {ops : Array Oper} (h : noDefer ops = true) : ∀ (i : Nat) (o : Oper), ops[i]? = some o → ∀ c, o.op ≠ Op.defer c := by
 intro i o ho c hc
 unfold noDefer at h
 rw [Array.all_eq_true] at h
 obtain ⟨hi, he⟩ := Array.getElem?_eq_some_iff.1 ho
 have := h i hi
 rw [he, hc] at this
 cases this
theorem iter_stops (s : ByteArray) (hs : s.size ≤ 9223372036854775000) (w : World) :
  SeqStopsK Fence.wide 4 Tryz.prog 87 #[.pointer (some ⟨w.heap.size, 0, none⟩)] (encIt s) (KpIt w.heap.size) (fun xs => xs = List.finRange (s.size / 64)) (fun _ => True) (s.size / 64) (w.alloc (.cells #[.string s] 9)) := by
 intro l J Jx W hW hJ hJx hY h0
 have hbox : W.cell? ⟨w.heap.size, 0, none⟩ = some (.string s) := by
  rw [hW.cell (p := ⟨w.heap.size, 0, none⟩) (by simp), cell_of_row _ w.heap.size 0 _ _ _ (heap_alloc_new w _)]
  rfl
 exact iter_in l w.heap.size s hs J Jx hY W hbox h0
set_option maxRecDepth 100000 in
set_option maxHeartbeats 1000000 in
theorem take_any (b : Nat) (st : St) (hst : st.ok) (r : List Value) (s : ByteArray) (hs : s.size ≤ 9223372036854775000) (w : World) (hG : Glob w) (hb2 : 2 ≤ b)
  (hc : w.heap[b]? = some (.cells (cells st ++ r).toArray 51 (0, 0)))
  (HBe : Hid (∀ (s : St) (hs : s.ok) (blk : ByteArray) (hb : blk.size = 64) (w : World) (hG : Glob w), Calls Tryz.prog 67 #[.agg (cells s).toArray, .string blk] w fun e w' => e = .returned (.agg (cells (comp s blk.data.toList)).toArray) ∧ Below w.heap.size w w')) :
  Calls Tryz.prog 36 #[.pointer (some ⟨b, 0, none⟩), .string s] w fun e w' => (∃ v, e = .returned v) ∧ Fr (fun k => k = b) w w' ∧ w'.heap[b]? = some (.cells (cells (mids st s.data.toList (s.size / 64)) ++ r).toArray 51 (0, 0)) := by
 refine (callsIn_wide (n := 5)).1 ?_
 have hbN : b < w.heap.size := lt_of_block hc
 have STOPS := iter_stops s hs (w.alloc (.cells #[.pointer (some ⟨b, 0, none⟩)] 38))
 rw [World.size_alloc] at STOPS
 refine callsIn_of_wp_marks Tryz.func36 rfl trivial ?_ rfl
 simp only [Tryz.ntmps36, List.size_toArray, List.length_cons, List.length_nil, Nat.reduceAdd, Nat.reduceSub, Array.replicate_succ, Array.replicate_zero, List.push_toArray, List.append_toArray, List.nil_append, List.cons_append]
 gi_wp2_with (refine ⟨trivial, ?_⟩; gi_at_call 66; refine (blocks_in _ _).mono ?_; rintro e w' ⟨rfl, rfl⟩)
 refine wpIn_rangeFunc_ownF rfl (by omega) (gf := 87) (lb := #[.pointer (some ⟨w.heap.size + 1, 0, none⟩)]) rfl trivial (enters_of Tryz.func87 (by kernel_rfl) rfl) STOPS
  (fun h1 h2 => KpIt.trans h1 h2) (kpIt_b (by simp)) (Below.refl _ _) (fun _ => rfl)
  (InvT ((w.alloc (.cells #[.pointer (some ⟨b, 0, none⟩)] 38)).alloc (.cells #[.string s] 9)) b s st r) (fun _ _ _ => False)
  (invT_own (by simp <;> omega)) (fun _ _ _ _ _ hs _ _ => hs)
  ⟨Fr.refl _ _, by rw [Below.heap_alloc _ _ _ (by simp <;> omega), Below.heap_alloc _ _ _ hbN]; exact hc⟩
  (fun x => { tmps := #[.pointer (some ⟨b, 0, none⟩), .string s, .pointer (some ⟨w.heap.size, 0, none⟩), undef, .string (s.extract (64 * x.1) (64 * x.1 + 64)), .string s, .func (.func 87) #[] #[.pointer (some ⟨w.heap.size + 1, 0, none⟩)], .string (s.extract (64 * x.1) (64 * x.1 + 64)), undef, undef, undef, undef, undef, undef, undef, undef, undef], defers := [] }) ?assign ?body ?done ?stop
 case assign =>
  intro l x W K hK
  clear STOPS
  unfold encIt
  gi_wp2
  exact hK
 case body =>
  rintro l pre x W ⟨hf, hc2⟩ hpl
  clear STOPS
  have hx := x.2
  obtain ⟨m, hm⟩ : ∃ m, Hid (m = foldC s st pre) := ⟨_, Lib.hid rfl⟩
  obtain ⟨blk, hblk⟩ : ∃ blk, Hid (blk = s.extract (64 * x.1) (64 * x.1 + 64)) := ⟨_, Lib.hid rfl⟩
  obtain ⟨m2, hm2⟩ : ∃ m2, Hid (m2 = comp m blk.data.toList) := ⟨_, Lib.hid rfl⟩
  have hbs : blk.size = 64 := by rw [hblk.out]; simp; omega
  have hGW : Glob W := by
   refine ⟨?_, ?_⟩
   ·rw [hf.block 1 (by simp <;> omega) (by omega), Below.heap_alloc _ _ _ (by simp <;> omega), Below.heap_alloc _ _ _ (by omega)]; exact hG.1
   ·rw [hf.block 0 (by simp <;> omega) (by omega), Below.heap_alloc _ _ _ (by simp <;> omega), Below.heap_alloc _ _ _ (by omega)]; exact hG.2
  rw [← hm.out] at hc2
  have HC : Hid (Calls Tryz.prog 67 #[.agg (cells m).toArray, .string blk] W.drew fun e w' => e = .returned (.agg (cells m2).toArray) ∧ Below W.heap.size W.drew w') := by
   unfold Hid; rw [hm2.out]
   exact HBe.out m (by rw [hm.out]; exact foldC_ok s hst pre) blk hbs W.drew hGW
  have hbx : Hid (W.drew.cell? ⟨w.heap.size, 0, none⟩ = some (.pointer (some ⟨b, 0, none⟩))) := by
   have h1 : W.heap[w.heap.size]? = some (.cells #[.pointer (some ⟨b, 0, none⟩)] 38 (0, 0)) := by
    rw [hf.block w.heap.size (by simp <;> omega) (by omega), Below.heap_alloc _ _ _ (by simp <;> omega)]
    exact heap_alloc_new w _
   have h2 := cell_of_row W w.heap.size 0 _ _ _ h1
   exact h2
  have hbW : b < W.heap.size := lt_of_block hc2
  have hwW : w.heap.size < W.heap.size := by have := hf.size; simp at this; omega
  have HBX : Hid (∀ w3, Below W.heap.size W.drew w3 → w3.cell? ⟨w.heap.size, 0, none⟩ = some (.pointer (some ⟨b, 0, none⟩))) := fun w3 hb => (hb.cell (p := ⟨w.heap.size, 0, none⟩) hwW).trans hbx.out
  have hseg : Hid (∀ j v, (cells m)[j]? = some v → W.drew.cell? ⟨b, 0 + j, none⟩ = some v) := by
   intro j v hv
   have h2 := cell_of_row W b (0 + j) _ _ _ hc2
   refine Eq.trans h2 ?_
   rw [Nat.zero_add, List.getElem?_toArray, List.getElem?_append_left (by
    rcases Nat.lt_or_ge j (cells m).length with h | h
    ·exact h
    ·rw [List.getElem?_eq_none h] at hv; cases hv)]
   exact hv
  have hsz : Hid ((Tryz.prog.info? 48).map (·.size) = some (cells m).length) := Lib.hid (size42f _ rfl)
  have hsz2 : Hid ((Tryz.prog.info? 48).map (·.size) = some (cells m2).length) := Lib.hid (size42f _ rfl)
  have hone : Hid (∀ v ∈ cells m2, v.oneCell' = true) := Lib.hid (cells_one _)
  have hfit : Hid (0 + (cells m2).length ≤ (cells m ++ r).toArray.size) := by
   unfold Hid
   rw [List.size_toArray, List.length_append]
   show 0 + 8 ≤ 8 + _
   omega
  have HPOST : Hid (∀ w3, Below W.heap.size W.drew w3 → w3.heap[b]? = some (.cells (cells m ++ r).toArray 51 (0, 0)) ∧ (KeepsOthers W (w3.setRow b (splice (cells m ++ r).toArray 0 (cells m2))) ∧ KpIt (w.heap.size + 1) W (w3.setRow b (splice (cells m ++ r).toArray 0 (cells m2))) ∧
    InvT ((w.alloc (.cells #[.pointer (some ⟨b, 0, none⟩)] 38)).alloc (.cells #[.string s] 9)) b s st r (pre ++ [x]) (w3.setRow b (splice (cells m ++ r).toArray 0 (cells m2))))) := by
   intro w3 hb
   have hb' : Below W.heap.size W w3 := ⟨hb.os, hb.tape, hb.output, hb.size, hb.block⟩
   have hrow : w3.heap[b]? = some (.cells (cells m ++ r).toArray 51 (0, 0)) := (hb'.block b hbW).trans hc2
   refine ⟨hrow, (below_others hb').trans (setRow_others hrow), ?_, ?_⟩
   ·refine ⟨Nat.le_trans hb'.size (by simp), ?_⟩
    rw [setRow_other _ _ _ _ (by omega)]
    exact hb'.block _ (by have := hf.size; simp at this; omega)
   ·refine ⟨(hf.trans ⟨hb'.os, hb'.tape, hb'.output, hb'.size, fun k hk _ => hb'.block k hk⟩).setRow rfl _, ?_⟩
    rw [setRow_heap _ _ _ _ _ _ hrow, splice_head (cells m) (cells m2) r rfl, foldC_snoc, ← hm.out, hm2.out, hblk.out, extract_chunk]
  have EG : Hid (∀ args w, (callFunc 67 args).run Tryz.prog w = .ok (.enter 67 args) w) := Lib.hid (enters_of Tryz.func67 (by kernel_rfl) rfl)
  rw [← hblk.out]
  clear hf hc2 hGW hbs hbW hwW hx hpl hm hm2 hblk hc hG HBe hst hs hbN
  gi_wp2
  refine wpIn_region_any (by kernel_rfl) ?_
  change wpAnyIn _ _ _ _ _ _ _ _ _ (World.drew _)
  refine anyIn_unround l rfl (noDefer_spec (by kernel_rfl)) _ _ _ _ ?_
  refine anyIn_take 5 (some 13) (.move (.tmp 4)) (.string blk) rfl (fun _ e => by cases e) rfl (by kernel_rfl) (by kernel_rfl) (by kernel_rfl) (fun _ _ _ h => h) (fun o ho w => exec_move (.tmp 4) ho _ rfl w) ?_
  simp only [Act.put, sT, sS, sZ]
  refine wpAnyIn_ready (rs := [0, 1]) (by kernel_rfl) (by simp) (AllReadyIn.op (some 8) (.load 38 (.tmp 2)) rfl (fun _ e => by cases e) (fun _ e => by cases e) _ (fun o ho => exec_load_one _ 38 (.tmp 2) ho ⟨w.heap.size, 0, none⟩ rfl _ hbx.out _ Tryz.underlying38 rfl) ?_ (AllReadyIn.op (some 9) (.load 38 (.tmp 2)) rfl (fun _ e => by cases e) (fun _ e => by cases e) _ (fun o ho => exec_load_one _ 38 (.tmp 2) ho ⟨w.heap.size, 0, none⟩ rfl _ hbx.out _ Tryz.underlying38 rfl) ?_ AllReadyIn.nil))
  ·simp only [Act.put, sT, sS, sZ]
   refine wpAnyIn_ready (rs := [1]) (by kernel_rfl) (by simp) (AllReadyIn.op (some 9) (.load 38 (.tmp 2)) rfl (fun _ e => by cases e) (fun _ e => by cases e) _ (fun o ho => exec_load_one _ 38 (.tmp 2) ho ⟨w.heap.size, 0, none⟩ rfl _ hbx.out _ Tryz.underlying38 rfl) ?_ AllReadyIn.nil)
   simp only [Act.put, sT, sS, sZ]
   refine anyIn_take 2 (some 10) (.nilCheck (.tmp 9)) (.pointer (some ⟨b, 0, none⟩)) rfl (fun _ e => by cases e) rfl (by kernel_rfl) (by kernel_rfl) (by kernel_rfl) (fun _ _ _ h => h) (fun o ho w => exec_nilCheck (.tmp 9) ho ⟨b, 0, none⟩ rfl w) ?_
   simp only [Act.put, sT, sS, sZ]
   refine anyIn_take 3 (some 11) (.fieldAddr 51 (.tmp 10) 0) (.pointer (some ⟨b, 0, none⟩)) rfl (fun _ e => by cases e) rfl (by kernel_rfl) (by kernel_rfl) (by kernel_rfl) (fun _ _ _ h => h) (fun o ho w => exec_fieldAddr42_0 (.tmp 10) ho b rfl w) ?_
   simp only [Act.put, sT, sS, sZ]
   refine wpAnyIn_ready (rs := [4]) (by kernel_rfl) (by simp) (AllReadyIn.op (some 12) (.load 48 (.tmp 11)) rfl (fun _ e => by cases e) (fun _ e => by cases e) _ (fun o ho => exec_load_seg _ 48 (.tmp 11) ho b 0 rfl (cells m) _ hseg.out Tryz.underlying48 rfl hsz.out) ?_ AllReadyIn.nil)
   simp only [Act.put, sT, sS, sZ]
   refine wpAnyIn_ready (rs := [6]) (by kernel_rfl) (by simp) (AllReadyIn.call (some 14) 67 #[.tmp 12, .tmp 13] #[48, 9] rfl rfl (fun _ => trivial) #[.agg (cells m).toArray, .string blk] (by simp [Act.eval]) EG.out _ ((callsIn_wide (n := _)).2 HC.out) (by omega) ?_ (fun c w' h => by cases h.1) (fun w' h => by cases h.1) AllReadyIn.nil)
   rintro v w3 ⟨he, hB3⟩
   cases he
   simp only [Act.put, sT, sS, sZ]
   refine anyIn_take 7 (some 15) (.nilCheck (.tmp 8)) (.pointer (some ⟨b, 0, none⟩)) rfl (fun _ e => by cases e) rfl (by kernel_rfl) (by kernel_rfl) (by kernel_rfl) (fun _ _ _ h => h) (fun o ho w => exec_nilCheck (.tmp 8) ho ⟨b, 0, none⟩ rfl w) ?_
   simp only [Act.put, sT, sS, sZ]
   refine anyIn_take 8 (some 16) (.fieldAddr 51 (.tmp 15) 0) (.pointer (some ⟨b, 0, none⟩)) rfl (fun _ e => by cases e) rfl (by kernel_rfl) (by kernel_rfl) (by kernel_rfl) (fun _ _ _ h => h) (fun o ho w => exec_fieldAddr42_0 (.tmp 15) ho b rfl w) ?_
   simp only [Act.put, sT, sS, sZ]
   refine wpAnyIn_ready (rs := [9]) (by kernel_rfl) (by simp) (AllReadyIn.op0 (.store 48 (.tmp 16) (.tmp 14)) rfl (fun _ e => by cases e) (fun _ e => by cases e) (fun o ho => exec_store_seg w3 48 (.tmp 16) (.tmp 14) ho b 0 rfl (cells m2) rfl _ 51 (HPOST.out w3 hB3).1 hfit.out hone.out hsz2.out) ?_ AllReadyIn.nil)
   refine wpAnyIn_done (by kernel_rfl) ?_ _
   exact (HPOST.out w3 hB3).2
  ·simp only [Act.put, sT, sS, sZ]
   refine anyIn_take 2 (some 10) (.nilCheck (.tmp 9)) (.pointer (some ⟨b, 0, none⟩)) rfl (fun _ e => by cases e) rfl (by kernel_rfl) (by kernel_rfl) (by kernel_rfl) (fun _ _ _ h => h) (fun o ho w => exec_nilCheck (.tmp 9) ho ⟨b, 0, none⟩ rfl w) ?_
   simp only [Act.put, sT, sS, sZ]
   refine anyIn_take 3 (some 11) (.fieldAddr 51 (.tmp 10) 0) (.pointer (some ⟨b, 0, none⟩)) rfl (fun _ e => by cases e) rfl (by kernel_rfl) (by kernel_rfl) (by kernel_rfl) (fun _ _ _ h => h) (fun o ho w => exec_fieldAddr42_0 (.tmp 10) ho b rfl w) ?_
   simp only [Act.put, sT, sS, sZ]
   refine wpAnyIn_ready (rs := [0, 4]) (by kernel_rfl) (by simp) (AllReadyIn.op (some 8) (.load 38 (.tmp 2)) rfl (fun _ e => by cases e) (fun _ e => by cases e) _ (fun o ho => exec_load_one _ 38 (.tmp 2) ho ⟨w.heap.size, 0, none⟩ rfl _ hbx.out _ Tryz.underlying38 rfl) ?_ (AllReadyIn.op (some 12) (.load 48 (.tmp 11)) rfl (fun _ e => by cases e) (fun _ e => by cases e) _ (fun o ho => exec_load_seg _ 48 (.tmp 11) ho b 0 rfl (cells m) _ hseg.out Tryz.underlying48 rfl hsz.out) ?_ AllReadyIn.nil))
   ·simp only [Act.put, sT, sS, sZ]
    refine wpAnyIn_ready (rs := [4]) (by kernel_rfl) (by simp) (AllReadyIn.op (some 12) (.load 48 (.tmp 11)) rfl (fun _ e => by cases e) (fun _ e => by cases e) _ (fun o ho => exec_load_seg _ 48 (.tmp 11) ho b 0 rfl (cells m) _ hseg.out Tryz.underlying48 rfl hsz.out) ?_ AllReadyIn.nil)
    simp only [Act.put, sT, sS, sZ]
    refine wpAnyIn_ready (rs := [6]) (by kernel_rfl) (by simp) (AllReadyIn.call (some 14) 67 #[.tmp 12, .tmp 13] #[48, 9] rfl rfl (fun _ => trivial) #[.agg (cells m).toArray, .string blk] (by simp [Act.eval]) EG.out _ ((callsIn_wide (n := _)).2 HC.out) (by omega) ?_ (fun c w' h => by cases h.1) (fun w' h => by cases h.1) AllReadyIn.nil)
    rintro v w3 ⟨he, hB3⟩
    cases he
    simp only [Act.put, sT, sS, sZ]
    refine anyIn_take 7 (some 15) (.nilCheck (.tmp 8)) (.pointer (some ⟨b, 0, none⟩)) rfl (fun _ e => by cases e) rfl (by kernel_rfl) (by kernel_rfl) (by kernel_rfl) (fun _ _ _ h => h) (fun o ho w => exec_nilCheck (.tmp 8) ho ⟨b, 0, none⟩ rfl w) ?_
    simp only [Act.put, sT, sS, sZ]
    refine anyIn_take 8 (some 16) (.fieldAddr 51 (.tmp 15) 0) (.pointer (some ⟨b, 0, none⟩)) rfl (fun _ e => by cases e) rfl (by kernel_rfl) (by kernel_rfl) (by kernel_rfl) (fun _ _ _ h => h) (fun o ho w => exec_fieldAddr42_0 (.tmp 15) ho b rfl w) ?_
    simp only [Act.put, sT, sS, sZ]
    refine wpAnyIn_ready (rs := [9]) (by kernel_rfl) (by simp) (AllReadyIn.op0 (.store 48 (.tmp 16) (.tmp 14)) rfl (fun _ e => by cases e) (fun _ e => by cases e) (fun o ho => exec_store_seg w3 48 (.tmp 16) (.tmp 14) ho b 0 rfl (cells m2) rfl _ 51 (HPOST.out w3 hB3).1 hfit.out hone.out hsz2.out) ?_ AllReadyIn.nil)
    refine wpAnyIn_done (by kernel_rfl) ?_ _
    exact (HPOST.out w3 hB3).2
   ·simp only [Act.put, sT, sS, sZ]
    refine wpAnyIn_ready (rs := [0, 6]) (by kernel_rfl) (by simp) (AllReadyIn.op (some 8) (.load 38 (.tmp 2)) rfl (fun _ e => by cases e) (fun _ e => by cases e) _ (fun o ho => exec_load_one _ 38 (.tmp 2) ho ⟨w.heap.size, 0, none⟩ rfl _ hbx.out _ Tryz.underlying38 rfl) ?_ (AllReadyIn.call (some 14) 67 #[.tmp 12, .tmp 13] #[48, 9] rfl rfl (fun _ => trivial) #[.agg (cells m).toArray, .string blk] (by simp [Act.eval]) EG.out _ ((callsIn_wide (n := _)).2 HC.out) (by omega) ?_ (fun c w' h => by cases h.1) (fun w' h => by cases h.1) AllReadyIn.nil))
    ·simp only [Act.put, sT, sS, sZ]
     refine wpAnyIn_ready (rs := [6]) (by kernel_rfl) (by simp) (AllReadyIn.call (some 14) 67 #[.tmp 12, .tmp 13] #[48, 9] rfl rfl (fun _ => trivial) #[.agg (cells m).toArray, .string blk] (by simp [Act.eval]) EG.out _ ((callsIn_wide (n := _)).2 HC.out) (by omega) ?_ (fun c w' h => by cases h.1) (fun w' h => by cases h.1) AllReadyIn.nil)
     rintro v w3 ⟨he, hB3⟩
     cases he
     simp only [Act.put, sT, sS, sZ]
     refine anyIn_take 7 (some 15) (.nilCheck (.tmp 8)) (.pointer (some ⟨b, 0, none⟩)) rfl (fun _ e => by cases e) rfl (by kernel_rfl) (by kernel_rfl) (by kernel_rfl) (fun _ _ _ h => h) (fun o ho w => exec_nilCheck (.tmp 8) ho ⟨b, 0, none⟩ rfl w) ?_
     simp only [Act.put, sT, sS, sZ]
     refine anyIn_take 8 (some 16) (.fieldAddr 51 (.tmp 15) 0) (.pointer (some ⟨b, 0, none⟩)) rfl (fun _ e => by cases e) rfl (by kernel_rfl) (by kernel_rfl) (by kernel_rfl) (fun _ _ _ h => h) (fun o ho w => exec_fieldAddr42_0 (.tmp 15) ho b rfl w) ?_
     simp only [Act.put, sT, sS, sZ]
     refine wpAnyIn_ready (rs := [9]) (by kernel_rfl) (by simp) (AllReadyIn.op0 (.store 48 (.tmp 16) (.tmp 14)) rfl (fun _ e => by cases e) (fun _ e => by cases e) (fun o ho => exec_store_seg w3 48 (.tmp 16) (.tmp 14) ho b 0 rfl (cells m2) rfl _ 51 (HPOST.out w3 hB3).1 hfit.out hone.out hsz2.out) ?_ AllReadyIn.nil)
     refine wpAnyIn_done (by kernel_rfl) ?_ _
     exact (HPOST.out w3 hB3).2
    ·rintro v w3 ⟨he, hB3⟩
     cases he
     simp only [Act.put, sT, sS, sZ]
     refine wpAnyIn_ready (rs := [0]) (by kernel_rfl) (by simp) (AllReadyIn.op (some 8) (.load 38 (.tmp 2)) rfl (fun _ e => by cases e) (fun _ e => by cases e) _ (fun o ho => exec_load_one _ 38 (.tmp 2) ho ⟨w.heap.size, 0, none⟩ rfl _ (HBX.out w3 hB3) _ Tryz.underlying38 rfl) ?_ AllReadyIn.nil)
     simp only [Act.put, sT, sS, sZ]
     refine anyIn_take 7 (some 15) (.nilCheck (.tmp 8)) (.pointer (some ⟨b, 0, none⟩)) rfl (fun _ e => by cases e) rfl (by kernel_rfl) (by kernel_rfl) (by kernel_rfl) (fun _ _ _ h => h) (fun o ho w => exec_nilCheck (.tmp 8) ho ⟨b, 0, none⟩ rfl w) ?_
     simp only [Act.put, sT, sS, sZ]
     refine anyIn_take 8 (some 16) (.fieldAddr 51 (.tmp 15) 0) (.pointer (some ⟨b, 0, none⟩)) rfl (fun _ e => by cases e) rfl (by kernel_rfl) (by kernel_rfl) (by kernel_rfl) (fun _ _ _ h => h) (fun o ho w => exec_fieldAddr42_0 (.tmp 15) ho b rfl w) ?_
     simp only [Act.put, sT, sS, sZ]
     refine wpAnyIn_ready (rs := [9]) (by kernel_rfl) (by simp) (AllReadyIn.op0 (.store 48 (.tmp 16) (.tmp 14)) rfl (fun _ e => by cases e) (fun _ e => by cases e) (fun o ho => exec_store_seg w3 48 (.tmp 16) (.tmp 14) ho b 0 rfl (cells m2) rfl _ 51 (HPOST.out w3 hB3).1 hfit.out hone.out hsz2.out) ?_ AllReadyIn.nil)
     refine wpAnyIn_done (by kernel_rfl) ?_ _
     exact (HPOST.out w3 hB3).2
 case done =>
  rintro D' ys W hD rfl ⟨hf, hc2⟩ hK
  have hDN : w.heap.size + 2 ≤ D' := by simpa using hD
  have hfin : Fr (fun k => k = b) w (W.putObj D' (.deferred none)) ∧ (W.putObj D' (.deferred none)).heap[b]? = some (.cells (cells (mids st s.data.toList (s.size / 64)) ++ r).toArray 51 (0, 0)) := by
   have ho : ∀ k, k ≠ D' → (W.putObj D' (.deferred none)).heap[k]? = W.heap[k]? := fun k h1 => World.putObj_heap_other h1
   refine ⟨⟨hf.os, hf.tape, hf.output, ?_, ?_⟩, ?_⟩
   ·have := hf.size; simp at this ⊢; omega
   ·intro k hk hk2
    rw [ho k (by omega), hf.block k (by simp <;> omega) hk2, Below.heap_alloc _ _ _ (by simp <;> omega), Below.heap_alloc _ _ _ hk]
   ·rw [ho b (by omega), hc2, foldC_all]
  have HF := Lib.hid hfin
  have HK := Lib.hid hK
  clear hfin hK hf hc2 STOPS hc hG HBe hst
  gi_wp2
  refine ⟨by simp, .inl ⟨_, _, rfl, run_takeDeferred HK.out, ?_⟩⟩
  exact ⟨_, results_none rfl _ _ _, ⟨_, rfl⟩, HF.out⟩
 case stop =>
  rintro D' c pre W _ _ h' _
  exact h'.elim
end Go.Proofs.YtdbbcngolcnniaaGreatDoor.S3
/- The bytes of the numbers (told), and New, of package sha. No condition but that the numbers have 32 bits. -/
namespace Go.Proofs.YtdbbcngolcnniaaGreatDoor.S3
set_option linter.unusedSimpArgs false
open Go.RowKit
set_option linter.unusedVariables false
def bytesV (l : List UInt8) : List Value := l.map fun b => .int .u8 (b.toNat : Int)
theorem bytesV_append (l m : List UInt8) : bytesV (l ++ m) = bytesV l ++ bytesV m := by simp [bytesV]
theorem bytesV_length (l : List UInt8) : (bytesV l).length = l.length := by simp [bytesV]
theorem info5 : (Tryz.prog.info? 5).map (fun i => (i.zero, i.size, i.bytes)) = some (some (.int .u8 0), 1, 1) := by kernel_rfl
theorem index39 (f : Nat → Nat) (i : Nat) (hi : i < 8) (w : World) : (Instr.index 48 (.agg (rowOf .u32 8 f).toArray) (.int .i64 i)).run Tryz.prog w = .ok (.int .u32 (f i)) w := by
 rcases (show i = 0 ∨ i = 1 ∨ i = 2 ∨ i = 3 ∨ i = 4 ∨ i = 5 ∨ i = 6 ∨ i = 7 by omega) with rfl | rfl | rfl | rfl | rfl | rfl | rfl | rfl <;> kernel_rfl
theorem bytes_app {W wr : World} {B : Nat} {v : Value} {n : Nat} {l : List UInt8} (hown : wr.ownsRow B 5 1 v n (bytesV l)) (hb : Below B W wr) (hB : B ≤ wr.heap.size)
  (news : List UInt8) (m : Nat) (hm : news.length = m) (arr : Array Value) (harr : arr = (bytesV news).toArray) (hlt : n + m ≤ 1000000) :
  ∃ v' W3, (∀ (ρ : Operand → Value) (o : Oper) (s x : Operand), o.op = Op.call { callee := Callee.builtin Builtin.append, args := #[s, x], argTypes := #[22, 22] } → ρ s = v → ρ x = .slice (some ⟨wr.heap.size, 0, none⟩) m m → (execOp ρ o).run Tryz.prog (wr.alloc (.cells arr 5)) = .ok (.value v') W3) ∧
   W3.ownsRow B 5 1 v' (n + m) (bytesV (l ++ news)) ∧ Below B W W3 ∧ W3.heap.size ≥ wr.heap.size := by
 obtain ⟨i5, hi5, hz5, hs5, hb5⟩ := info_parts info5
 subst harr
 obtain ⟨v', W3, happ, hown', hgrow, hat⟩ := exec_append_own (P := Tryz.prog) (wr.alloc (.cells (bytesV news).toArray 5)) B 22 5 i5 _ 1 1 Tryz.underlying22 hi5 hz5 hs5 hb5 rfl (by decide) _ n _ (hown.alloc _) ⟨wr.heap.size, 0, none⟩ m m (bytesV news) (by rw [bytesV_length]; omega) (by
   intro j u hu
   rw [addr_add, cell_of_row _ wr.heap.size (0 + j) (bytesV news).toArray 5 (0, 0) (heap_alloc_new wr _), Nat.zero_add, List.getElem?_toArray]
   exact hu) (by intro u hu; simp [bytesV] at hu; obtain ⟨b, _, rfl⟩ := hu; rfl) (by unfold maxLen; omega) (by omega) (by simp; omega)
 refine ⟨v', W3, happ, by rw [bytesV_append]; exact hown', (hb.alloc hB _).grown hgrow (by simp; omega) (fun j hj => (hown.lt j hj).1), ?_⟩
 have := hgrow.size
 simp at this
 omega
theorem bytes_str {wr : World} {B : Nat} {v : Value} {n : Nat} {l : List UInt8} (hown : wr.ownsRow B 5 1 v n (bytesV l)) (hn : 0 < n) :
  ∃ g cap, v = .slice (some ⟨g, 0, none⟩) n cap ∧ (Go.convert 22 9 (.slice (some ⟨g, 0, none⟩) n cap)).run Tryz.prog wr = .ok (.string ⟨l.toArray⟩) wr := by
 have hl : l.length = n := by have := hown.1; rw [bytesV_length] at this; omega
 rcases hown.2 with ⟨_, h0⟩ | ⟨g, cap, cur, rfl, _⟩
 ·omega
 ·subst hl
  refine ⟨g, cap, rfl, run_convert_bytes_back wr 22 9 5 ⟨g, 0, none⟩ cap l Tryz.underlying22 Tryz.underlying5 Tryz.underlying9 (fun j hj => ?_)⟩
  rw [addr_add, Nat.zero_add, hown.cellAt j (by omega)]
  unfold bytesV
  rw [List.getElem?_map, List.getElem?_eq_getElem hj]
  rfl
theorem be4V (x : Nat) (hx : x < 4294967296) : bytesV (be4 x) = [.int .u8 ((x : Int) / 16777216), .int .u8 ((x : Int) / 65536 % 256), .int .u8 ((x : Int) / 256 % 256), .int .u8 ((x : Int) % 256)] := by
 have e : ∀ n : Nat, ((UInt8.ofNat n).toNat : Int) = (n : Int) % 256 := fun n => by rw [UInt8.toNat_ofNat']; omega
 unfold bytesV be4
 simp only [List.map_cons, List.map_nil, e]
 have h1 : ((x / 16777216 : Nat) : Int) % 256 = (x : Int) / 16777216 := by omega
 have h2 : ((x / 65536 : Nat) : Int) % 256 = (x : Int) / 65536 % 256 := by omega
 have h3 : ((x / 256 : Nat) : Int) % 256 = (x : Int) / 256 % 256 := by omega
 rw [h1, h2, h3]
def tellTo (f : Nat → Nat) : Nat → List UInt8
 | 0 => []
 | k + 1 => tellTo f k ++ be4 (f k)
theorem tellTo_succ (f : Nat → Nat) (k : Nat) : tellTo f (k + 1) = tellTo f k ++ be4 (f k) := rfl
theorem tellTo_length (f : Nat → Nat) : ∀ k, (tellTo f k).length = 4 * k
 | 0 => rfl
 | k + 1 => by rw [tellTo_succ, List.length_append, tellTo_length f k]; show 4 * k + 4 = _; omega
set_option maxRecDepth 100000 in
set_option maxHeartbeats 400000 in
theorem told_any (f : Nat → Nat) (hf : ∀ j, f j < 4294967296) (w : World) :
  Calls Tryz.prog 46 #[.agg (rowOf .u32 8 f).toArray] w fun e w' => e = .returned (.string ⟨(tellTo f 8).toArray⟩) ∧ Below w.heap.size w w' := by
 obtain ⟨cf, hcf⟩ : ∃ cf, Hid (cf = rowOf .u32 8 f) := ⟨_, Lib.hid rfl⟩
 have hmk : ∀ w, (Instr.makeSlice 22 (.int .i64 0) (.int .i64 32)).run Tryz.prog w = .ok (.slice (some ⟨w.heap.size, 0, none⟩) 0 32) (w.alloc (.cells (Array.replicate 32 (.int .u8 0)) 5)) := fun _ => by kernel_rfl
 obtain ⟨A32, hA⟩ : ∃ A32, Hid (A32 = Array.replicate 32 (Value.int .u8 0)) := ⟨_, Lib.hid rfl⟩
 rw [← hA.out] at hmk
 rw [← hcf.out]
 obtain ⟨tl, htl⟩ : ∃ tl, Hid (tl = tellTo f 8) := ⟨_, Lib.hid rfl⟩
 rw [← htl.out]
 have hc : Hid (∀ j v, cf[j]? = some v → ((w.alloc (.cells cf.toArray 48)).alloc (.cells A32 5)).cell? ⟨w.heap.size, 0 + j, none⟩ = some v) := by
  intro j v hv
  rw [cell_of_row _ _ _ _ _ _ (heap_alloc2_old w _ _), Nat.zero_add, List.getElem?_toArray, hv]
 have hsz : Hid ((Tryz.prog.info? 48).map (·.size) = some cf.length) := by unfold Hid; rw [hcf.out, rowOf_length]; kernel_rfl
 have hix : Hid (∀ (i : Nat) (hi : i < 8) (w : World), (Instr.index 48 (.agg cf.toArray) (.int .i64 i)).run Tryz.prog w = .ok (.int .u32 (f i)) w) := by unfold Hid; rw [hcf.out]; exact index39 f
 have hown0 : Hid (((w.alloc (.cells cf.toArray 48)).alloc (.cells A32 5)).ownsRow w.heap.size 5 1 (.slice (some ⟨w.heap.size + 1, 0, none⟩) 0 32) 0 []) := by
  unfold Hid World.ownsRow
  exact ⟨rfl, Or.inr ⟨w.heap.size + 1, 32, A32, rfl, by omega, heap_alloc2_new w _ _, by omega, by unfold maxLen; omega, by rw [hA.out]; simp, by simp⟩⟩
 go_enter Tryz.func46, Tryz.ntmps46
 go_wp2_with (refine wpList_load_seg rfl 48 (.tmp 1) rfl w.heap.size 0 rfl cf _ hc.out Tryz.underlying48 rfl hsz.out ?_)
 go_loopw [3, 5, 8] (fun v x i wr => ∃ k : Nat, k ≤ 8 ∧ i = .int .i64 k ∧ wr.ownsRow w.heap.size 5 1 v (4 * k) (bytesV (tellTo f k)) ∧ Below w.heap.size w wr) (fun _ _ i _ => 8 - (intOf i).toNat)
 case atStart => exact ⟨0, by omega, rfl, hown0.out, ((Below.refl _ w).alloc (Nat.le_refl _) _).alloc (by simp) _⟩
 case round =>
  obtain ⟨k, hk, rfl, hown, hb⟩ := hrel
  by_cases hlt : k < 8
  ·have hix2 := hix.out k hlt
   have hx := hf k
   have HT := Lib.hid (tellTo_succ f k)
   generalize f k = x at *
   clear hmk
   obtain ⟨v', W3, happ, hown', hb', hz'⟩ := bytes_app hown hb hb.size (be4 x) 4 rfl _ (congrArg List.toArray (be4V x hx).symm) (by omega)
   have HAPP := Lib.hid happ
   have HO := Lib.hid hown'
   have HF := Lib.hid hb'
   clear happ hown' hb' hown hb hz'
   go_wp2_with (at_builtin; refine wpList_run rfl _ (HAPP.out _ _ (.tmp 11) (.tmp 23) rfl rfl rfl) ?_)
   go_roundw
   case rel => exact ⟨k + 1, by omega, by go_num, by rw [HT.out, show 4 * (k + 1) = 4 * k + 4 by omega]; exact HO.out, HF.out⟩
   case measure => simp [intOf]; omega
  ·obtain rfl : k = 8 := by omega
   obtain ⟨g, cap, rfl, hcv⟩ := bytes_str hown (by omega)
   have HB := Lib.hid hb
   rw [show 4 * 8 = 32 from rfl] at hcv ⊢
   rw [show ((8 : Nat) : Int) = (8 : Int) from rfl]
   rw [← htl.out] at hcv
   clear hown hb hix hown0 hc hmk
   go_wp2
   go_ret
   exact ⟨rfl, HB.out⟩
def z64b : List Value := List.replicate 64 (.int .u8 0)
def stCells (s : List Value) (r : List Value) (n : Nat) : List Value := s ++ (r ++ [.int .i64 n])
def stZero : List Value := stCells (List.replicate 8 (.int .u32 0)) z64b 0
theorem zero42 (w : World) : (zeroValue 51).run Tryz.prog w = .ok (.agg stZero.toArray) w := by kernel_rfl
end Go.Proofs.YtdbbcngolcnniaaGreatDoor.S3
/- What comes behind n bytes so that they end with a block: tail of package sha, up to a million bytes. -/
namespace Go.Proofs.YtdbbcngolcnniaaGreatDoor.S3
set_option linter.unusedSimpArgs false
open Go.RowKit
set_option linter.unusedVariables false
def lenOf : Value → Nat
 | .slice _ n _ => n
 | _ => 0
theorem fill_lt (n : Nat) : fill n < 64 := Nat.mod_lt _ (by decide)
theorem fill_end (n : Nat) : (n + 1 + fill n) % 64 = 56 := by unfold fill; omega
theorem fill_not (n k : Nat) (h : k < fill n) : (n + 1 + k) % 64 ≠ 56 := by unfold fill at h; omega
def zs (k : Nat) : List UInt8 := 128 :: List.replicate k 0
theorem zs_succ (k : Nat) : zs (k + 1) = zs k ++ [0] := by unfold zs; rw [List.replicate_succ', List.cons_append]
theorem be8_get (N k : Nat) (hk : k < 8) : (be8 N).take (k + 1) = (be8 N).take k ++ [UInt8.ofNat (N / 2 ^ (8 * (7 - k)))] := by
 rcases (show k = 0 ∨ k = 1 ∨ k = 2 ∨ k = 3 ∨ k = 4 ∨ k = 5 ∨ k = 6 ∨ k = 7 by omega) with rfl | rfl | rfl | rfl | rfl | rfl | rfl | rfl
 all_goals simp [be8]
theorem one_of (N : Nat) : bytesV [UInt8.ofNat N] = [.int .u8 ((N : Int) % 256)] := by
 unfold bytesV
 simp only [List.map_cons, List.map_nil]
 rw [UInt8.toNat_ofNat']
 rfl
theorem one_of2 (n e : Nat) : bytesV [UInt8.ofNat (8 * n / 2 ^ e)] = [.int .u8 (8 * (n : Int) / 2 ^ e % 256)] := by
 rw [one_of, show 8 * (n : Int) = ((8 * n : Nat) : Int) by omega, shr_cast]
theorem tailN_eq (n : Nat) : zs (fill n) ++ be8 (8 * n) = tailN n := rfl
set_option maxRecDepth 100000 in
set_option maxHeartbeats 1000000 in
theorem tail_any (n : Nat) (hn : n ≤ 1000000) (w : World) :
  Calls Tryz.prog 45 #[.int .i64 n] w fun e w' => e = .returned (.string ⟨(tailN n).toArray⟩) ∧ Below w.heap.size w w' := by
 obtain ⟨tl, htl⟩ : ∃ tl, Hid (tl = tailN n) := ⟨_, Lib.hid rfl⟩
 rw [← htl.out]
 obtain ⟨F, hF⟩ : ∃ F, Hid (F = fill n) := ⟨_, Lib.hid rfl⟩
 have hF64 : F < 64 := by rw [hF.out]; exact fill_lt n
 go_enter Tryz.func45, Tryz.ntmps45
 go_wp2
 go_loopw [3] (fun v wr => ∃ k g cap : Nat, k ≤ F ∧ v = .slice (some ⟨g, 0, none⟩) (k + 1) cap ∧ wr.ownsRow w.heap.size 5 1 v (k + 1) (bytesV (zs k)) ∧ Below w.heap.size w wr) (fun v _ => F + 1 - lenOf v)
 case atStart =>
  refine ⟨0, _, _, by omega, rfl, ⟨rfl, Or.inr ⟨_, _, _, rfl, Nat.le_refl _, heap_alloc_new w _, by omega, by unfold maxLen; omega, rfl, rfl⟩⟩, (Below.refl _ w).alloc (Nat.le_refl _) _⟩
 case round =>
  obtain ⟨k, g, cap, hk, rfl, hown, hb⟩ := hrel
  by_cases hlt : k < F
  ·have hne := fill_not n k (by rw [← hF.out]; exact hlt)
   have h1 : ((n : Int) + (k + 1)) % 64 ≠ 56 := by omega
   have h2 : (((n : Int) + (k + 1)) % 64 != 56) = true := by rw [bne_iff_ne]; exact h1
   obtain ⟨v', W3, happ, hown', hb', hz'⟩ := bytes_app hown hb hb.size [0] 1 rfl _ rfl (by omega)
   rw [← zs_succ] at hown'
   have HAPP := Lib.hid happ
   have HO := Lib.hid hown'
   have HF := Lib.hid hb'
   clear happ hown' hb' hown hb hz' hne h1
   go_wp2_with (at_builtin; refine wpList_run rfl _ (HAPP.out _ _ (.tmp 13) (.tmp 14) rfl rfl rfl) ?_)
   rcases HO.out.2 with ⟨_, h0⟩ | ⟨g2, cap2, cur2, rfl, _⟩
   ·omega
   ·go_roundw
    case rel => exact ⟨k + 1, g2, cap2, by omega, rfl, HO.out, HF.out⟩
    case measure => simp [lenOf]; omega
  ·obtain rfl : k = F := by omega
   have hne := fill_end n
   rw [← hF.out] at hne
   have h2 : (((n : Int) + (k + 1)) % 64 != 56) = false := by rw [bne_eq_false_iff_eq]; omega
   have HO := Lib.hid hown
   have HB := Lib.hid hb
   clear hown hb hne
   go_wp2
   obtain ⟨wo, rfl⟩ : ∃ wo : World, wo = wr := ⟨_, rfl⟩
   go_loopw [3, 5] (fun v i wr => ∃ q g cap : Nat, q ≤ 8 ∧ i = .int .i64 (7 - (q : Int)) ∧ v = .slice (some ⟨g, 0, none⟩) (k + 1 + q) cap ∧ wr.ownsRow w.heap.size 5 1 v (k + 1 + q) (bytesV (zs k ++ (be8 (8 * n)).take q)) ∧ Below w.heap.size w wr) (fun _ i _ => (1 + intOf i).toNat)
   case atStart => exact ⟨0, g, cap, by omega, rfl, rfl, by rw [List.take_zero, List.append_nil]; exact HO.out, HB.out⟩
   case round =>
    clear HO HB
    obtain ⟨q, g, cap, hq, rfl, rfl, hown, hb⟩ := hrel
    by_cases hlt2 : q < 8
    ·obtain ⟨v', W3, happ, hown', hb', hz'⟩ := bytes_app hown hb hb.size [UInt8.ofNat (8 * n / 2 ^ (8 * (7 - q)))] 1 rfl _ (congrArg List.toArray (one_of2 n (8 * (7 - q))).symm) (by omega)
     rw [List.append_assoc, ← be8_get (8 * n) q hlt2] at hown'
     have HAPP := Lib.hid happ
     have HO := Lib.hid hown'
     have HF := Lib.hid hb'
     clear happ hown' hb' hown hb hz'
     go_wp2_with (at_builtin; refine wpList_run rfl _ (HAPP.out _ _ (.tmp 23) (.tmp 29) rfl rfl rfl) ?_)
     rcases HO.out.2 with ⟨_, h0⟩ | ⟨g2, cap2, cur2, rfl, _⟩
     ·omega
     ·go_roundw
      case rel => exact ⟨q + 1, g2, cap2, by omega, congrArg (Value.int IntKind.i64) (by omega), rfl, HO.out, HF.out⟩
      case measure => simp [intOf]; omega
    ·obtain rfl : q = 8 := by omega
     obtain ⟨g2, cap2, he, hcv⟩ := bytes_str hown (by omega)
     obtain ⟨rfl, rfl⟩ : g2 = g ∧ cap2 = cap := by
      injection he with h1 _ h3
      injection h1 with h1
      injection h1 with h1
      exact ⟨h1.symm, h3.symm⟩
     have htl2 : zs k ++ (be8 (8 * n)).take 8 = tl := by rw [htl.out, hF.out, ← tailN_eq]; rfl
     rw [htl2] at hcv
     have HB := Lib.hid hb
     clear hown hb htl2 he
     go_wp2
     go_ret
     exact ⟨rfl, HB.out⟩
end Go.Proofs.YtdbbcngolcnniaaGreatDoor.S3
/- A state of package sha as it lies in memory, and what copying into it does. No condition. -/
namespace Go.Proofs.YtdbbcngolcnniaaGreatDoor.S3
set_option linter.unusedSimpArgs false
open Go.RowKit
set_option linter.unusedVariables false
theorem mids_ext (e : St) (l m : List UInt8) : ∀ k, (∀ i, i < k → chunk l i = chunk m i) → mids e l k = mids e m k
 | 0, _ => rfl
 | k + 1, h => by
  show comp (mids e l k) (chunk l k) = comp (mids e m k) (chunk m k)
  rw [mids_ext e l m k (fun i hi => h i (by omega)), h k (by omega)]
theorem mids_prefix (e : St) (l s : List UInt8) (k : Nat) (hk : 64 * k ≤ l.length) : mids e (l ++ s) k = mids e l k := by
 refine mids_ext e _ _ k (fun i hi => ?_)
 unfold chunk
 rw [List.drop_append, List.take_append_of_le_length (by rw [List.length_drop]; omega)]
theorem mids_split (e : St) (l : List UInt8) (i : Nat) : ∀ j, mids e l (i + j) = mids (mids e l i) (l.drop (64 * i)) j
 | 0 => rfl
 | j + 1 => by
  show comp (mids e l (i + j)) (chunk l (i + j)) = comp (mids (mids e l i) (l.drop (64 * i)) j) (chunk (l.drop (64 * i)) j)
  rw [mids_split e l i j]
  congr 1
  unfold chunk
  rw [List.drop_drop, show 64 * (i + j) = 64 * i + 64 * j by omega]
def StRep (w : World) (b : Nat) (l : List UInt8) : Prop :=
 ∃ (e : St) (rb : List UInt8), w.heap[b]? = some (.cells (stCells (cells e) (bytesV rb) l.length).toArray 51 (0, 0)) ∧ rb.length = 64 ∧ e.ok ∧ (l ≠ [] → e = mids h0 l (l.length / 64)) ∧ rb.take (l.length % 64) = l.drop (64 * (l.length / 64))
theorem stCells_len (e : St) (rb : List UInt8) (n : Nat) (h : rb.length = 64) : (stCells (cells e) (bytesV rb) n).length = 73 := by
 unfold stCells
 rw [List.length_append, List.length_append, bytesV_length, h]
 rfl
theorem stCells_n (e : St) (rb : List UInt8) (n : Nat) (h : rb.length = 64) : (stCells (cells e) (bytesV rb) n)[72]? = some (.int .i64 n) := by
 unfold stCells
 rw [List.getElem?_append_right (by show 8 ≤ 72; omega), List.getElem?_append_right (by rw [bytesV_length, h]; show 64 ≤ 72 - 8; omega), bytesV_length, h]
 rfl
theorem stCells_rest (e : St) (rb : List UInt8) (n : Nat) (h : rb.length = 64) (j : Nat) (hj : j < 64) : (stCells (cells e) (bytesV rb) n)[8 + j]? = some (.int .u8 ((rb[j]'(by omega)).toNat : Int)) := by
 unfold stCells
 rw [List.getElem?_append_right (by show 8 ≤ 8 + j; omega), show 8 + j - (cells e).length = j by show 8 + j - 8 = j; omega, List.getElem?_append_left (by rw [bytesV_length]; omega)]
 unfold bytesV
 rw [List.getElem?_map, List.getElem?_eq_getElem (by omega)]
 rfl
theorem stCells_setN (e : St) (rb : List UInt8) (n m : Nat) (h : rb.length = 64) : (stCells (cells e) (bytesV rb) n).toArray.setIfInBounds 72 (.int .i64 m) = (stCells (cells e) (bytesV rb) m).toArray := by
 apply Array.ext'
 rw [Array.toList_setIfInBounds]
 show (stCells (cells e) (bytesV rb) n).set 72 _ = stCells (cells e) (bytesV rb) m
 unfold stCells
 rw [List.set_append_right (h := by show 8 ≤ 72; omega), List.set_append_right (h := by rw [bytesV_length, h]; show 64 ≤ 72 - 8; omega), bytesV_length, h]
 rfl
def over (rb : List UInt8) (o : Nat) (s : List UInt8) : List UInt8 := rb.take o ++ s ++ rb.drop (o + s.length)
theorem over_length (rb : List UInt8) (o : Nat) (s : List UInt8) (h : o + s.length ≤ rb.length) : (over rb o s).length = rb.length := by
 unfold over; simp; omega
theorem stCells_over (e : St) (rb : List UInt8) (n o : Nat) (s : List UInt8) (h : rb.length = 64) (hs : o + s.length ≤ 64) :
  splice (stCells (cells e) (bytesV rb) n).toArray (8 + o) (bytesV s) = (stCells (cells e) (bytesV (over rb o s)) n).toArray := by
 unfold splice stCells over
 congr 1
 have hc : (cells e).length = 8 := rfl
 have h1 : (bytesV rb).length = 64 := by rw [bytesV_length, h]
 rw [List.take_append, List.drop_append, hc, bytesV_length]
 rw [List.take_of_length_le (by rw [hc]; omega), List.drop_eq_nil_of_le (by rw [hc]; omega), show 8 + o - 8 = o by omega, show 8 + o + s.length - 8 = o + s.length by omega]
 rw [List.take_append_of_le_length (by rw [h1]; omega), List.drop_append_of_le_length (by rw [h1]; omega)]
 rw [bytesV_append, bytesV_append]
 unfold bytesV
 simp
theorem stCells_head (e e2 : St) (rb : List UInt8) (n : Nat) : splice (stCells (cells e) (bytesV rb) n).toArray 0 (cells e2) = (stCells (cells e2) (bytesV rb) n).toArray := splice_head (cells e) (cells e2) _ rfl
section
variable {P : Program}
theorem run_copy_any (w : World) (dT sT ty elem : TypeId) (g o dLen dCap : Nat) (s : ByteArray) (k : Nat) (hk : k = min s.size dLen) (cur : Array Value) (t : TypeId)
  (hu : P.underlying dT = some (.slice elem)) (hs : (P.info? elem).map (·.size) = some 1) (hg : w.heap[g]? = some (.cells cur t (0, 0))) (hfit : o + k ≤ cur.size) :
  (Builtin.copy_ #[dT, sT] ty #[.slice (some ⟨g, o, none⟩) dLen dCap, .string s]).run P w = .ok (goInt k) (w.setRow g (splice cur o (bytesV (s.data.toList.take k)))) := by
 have hsz : (bytesV (s.data.toList.take k)).length = k := by rw [bytesV_length, List.length_take]; show min k s.size = k; omega
 have hst := run_storeCells_at P g o t (bytesV (s.data.toList.take k)) 0 cur w hg (by rw [hsz]; simpa using hfit) (by intro v hv; unfold bytesV at hv; obtain ⟨b, _, rfl⟩ := List.mem_map.1 hv; rfl)
 have hmin : Nat.min s.size dLen = k := hk.symm
 cases hq : P.info? elem with
 | none => simp [hq] at hs
 | some i =>
  have htk : List.take k (List.map (fun b => Value.int .u8 (b.toNat : Int)) s.data.toList) = bytesV (s.data.toList.take k) := by unfold bytesV; rw [List.map_take]
  simp only [Nat.add_zero] at hst
  simp [Builtin.copy_, run_underlying hu, Builtin.lenOf, Builtin.firstCells, sizeOf, typeInfo, hq, hmin, htk, hst, splice]
theorem exec_copy_any {ρ : Operand → Value} {oo : Oper} (w : World) (d x : Operand) (dT sT elem : TypeId) (ho : oo.op = .call { callee := .builtin .copy, args := #[d, x], argTypes := #[dT, sT] }) (g o dLen dCap : Nat) (s : ByteArray) (k : Nat) (hk : k = min s.size dLen) (cur : Array Value) (t : TypeId)
  (hd : ρ d = .slice (some ⟨g, o, none⟩) dLen dCap) (hx : ρ x = .string s)
  (hu : P.underlying dT = some (.slice elem)) (hs : (P.info? elem).map (·.size) = some 1) (hg : w.heap[g]? = some (.cells cur t (0, 0))) (hfit : o + k ≤ cur.size) :
  (execOp ρ oo).run P w = .ok (.value (goInt k)) (w.setRow g (splice cur o (bytesV (s.data.toList.take k)))) := by
 have h := run_copy_any (P := P) w dT sT oo.type elem g o dLen dCap s k hk cur t hu hs hg hfit
 unfold execOp
 simp [ho, resolve, invoke, builtin, hd, hx, h]
end
theorem size5 : (Tryz.prog.info? 5).map (·.size) = some 1 := by kernel_rfl
end Go.Proofs.YtdbbcngolcnniaaGreatDoor.S3
/- The rounds of behind of package sha: the eight numbers behind 64 of them. -/
namespace Go.Proofs.YtdbbcngolcnniaaGreatDoor.S3
set_option linter.unusedSimpArgs false
open Go.RowKit
set_option linter.unusedVariables false
noncomputable def body1 : Code := ((Tryz.f67.body.map fun c => (loopsOf c).getD 0 .skip)).getD .skip
set_option maxRecDepth 100000 in
set_option maxHeartbeats 4000000 in
theorem loop1_ok (s : St) (l : List UInt8) (g5 m0 : Nat) (W5 : World) (Q : Exit → Act → World → Prop) (c0 c1 c2 c3 c4 c14 c15 c16 c17 c18 c19 c20 c21 c22 c23 c24 c25 c26 c27 c28 c29 c30 c31 c32 c33 c34 c35 c36 c38 c39 c40 c41 c42 c43 c44 c45 c46 c47 c48 c49 c50 c51 c52 c53 c54 c55 c56 c57 c58 c59 c60 c61 c62 c63 c64 c65 c66 c67 c68 c69 c70 c71 c72 c73 c74 c75 c76 c77 c78 c79 c80 c81 c82 c83 c84 c85 c86 c87 c88 c89 c90 c91 c92 c93 c94 c95 c96 c97 c98 c99 c100 c101 c102 c103 c104 c105 c106 c107 c108 c109 c110 c111 c112 c113 c114 c115 c116 c117 c118 c119 c120 : Value) (HS : Hid s.ok) (HGl : Hid (Glob W5)) (HRW : Hid (Row W5 g5 106 .u32 64 (W l)))
  (hexit : ∀ (u14 u15 u16 u39 u40 u41 u42 u43 u44 u45 u46 u47 u48 u49 u50 u51 u52 u53 u54 u55 u56 u57 u58 u59 u60 u61 u62 u63 u64 u65 u66 u67 u68 u69 u70 u71 u72 u73 u74 u75 u76 u77 u78 u79 u80 u81 u82 u83 u84 u85 u86 u87 u88 u89 u90 u91 u92 u93 u94 u95 u96 u97 u98 u99 : Value) (t : St) (m : Nat), Hid (t = rnds l s 64) → Q (.exit 0) ⟨(c0 :: c1 :: c2 :: c3 :: c4 :: (.pointer (some ⟨g5, 0, none⟩)) :: (.int .u32 (t.a)) :: (.int .u32 (t.b)) :: (.int .u32 (t.c)) :: (.int .u32 (t.d)) :: (.int .u32 (t.e)) :: (.int .u32 (t.f)) :: (.int .u32 (t.g)) :: (.int .u32 (t.h)) :: u14 :: u15 :: u16 :: c17 :: c18 :: c19 :: c20 :: c21 :: c22 :: c23 :: c24 :: c25 :: c26 :: c27 :: c28 :: c29 :: c30 :: c31 :: c32 :: c33 :: c34 :: c35 :: c36 :: (.int .i64 64) :: (.bool false) :: u39 :: u40 :: u41 :: u42 :: u43 :: u44 :: u45 :: u46 :: u47 :: u48 :: u49 :: u50 :: u51 :: u52 :: u53 :: u54 :: u55 :: u56 :: u57 :: u58 :: u59 :: u60 :: u61 :: u62 :: u63 :: u64 :: u65 :: u66 :: u67 :: u68 :: u69 :: u70 :: u71 :: u72 :: u73 :: u74 :: u75 :: u76 :: u77 :: u78 :: u79 :: u80 :: u81 :: u82 :: u83 :: u84 :: u85 :: u86 :: u87 :: u88 :: u89 :: u90 :: u91 :: u92 :: u93 :: u94 :: u95 :: u96 :: u97 :: u98 :: u99 :: c100 :: c101 :: c102 :: c103 :: c104 :: c105 :: c106 :: c107 :: c108 :: c109 :: c110 :: c111 :: c112 :: c113 :: c114 :: c115 :: c116 :: c117 :: c118 :: c119 :: c120 :: []).toArray, []⟩ (W5.drewN m)) :
  Code.wp Tryz.prog (Code.loop body1) Q ⟨(c0 :: c1 :: c2 :: c3 :: c4 :: (.pointer (some ⟨g5, 0, none⟩)) :: (.int .u32 s.a) :: (.int .u32 s.b) :: (.int .u32 s.c) :: (.int .u32 s.d) :: (.int .u32 s.e) :: (.int .u32 s.f) :: (.int .u32 s.g) :: (.int .u32 s.h) :: c14 :: c15 :: c16 :: c17 :: c18 :: c19 :: c20 :: c21 :: c22 :: c23 :: c24 :: c25 :: c26 :: c27 :: c28 :: c29 :: c30 :: c31 :: c32 :: c33 :: c34 :: c35 :: c36 :: (.int .i64 0) :: c38 :: c39 :: c40 :: c41 :: c42 :: c43 :: c44 :: c45 :: c46 :: c47 :: c48 :: c49 :: c50 :: c51 :: c52 :: c53 :: c54 :: c55 :: c56 :: c57 :: c58 :: c59 :: c60 :: c61 :: c62 :: c63 :: c64 :: c65 :: c66 :: c67 :: c68 :: c69 :: c70 :: c71 :: c72 :: c73 :: c74 :: c75 :: c76 :: c77 :: c78 :: c79 :: c80 :: c81 :: c82 :: c83 :: c84 :: c85 :: c86 :: c87 :: c88 :: c89 :: c90 :: c91 :: c92 :: c93 :: c94 :: c95 :: c96 :: c97 :: c98 :: c99 :: c100 :: c101 :: c102 :: c103 :: c104 :: c105 :: c106 :: c107 :: c108 :: c109 :: c110 :: c111 :: c112 :: c113 :: c114 :: c115 :: c116 :: c117 :: c118 :: c119 :: c120 :: []).toArray, []⟩ (W5.drewN m0) := by
 conv =>
  arg 2
  arg 1
  whnf
 go_loopw [6, 7, 8, 9, 10, 11, 12, 13, 14, 15, 16, 37] (fun a b c d e f g h i u v k0 wr => ∃ k : Nat, ∃ t : St, k ≤ 64 ∧ k0 = .int .i64 k ∧ a = .int .u32 t.a ∧ b = .int .u32 t.b ∧ c = .int .u32 t.c ∧ d = .int .u32 t.d ∧ e = .int .u32 t.e ∧ f = .int .u32 t.f ∧ g = .int .u32 t.g ∧ h = .int .u32 t.h ∧ Hid (t = rnds l s k) ∧ ∃ m, wr = W5.drewN m) (fun _ _ _ _ _ _ _ _ _ _ _ k _ => 64 - (intOf k).toNat)
 case atStart => exact ⟨0, s, by omega, rfl, rfl, rfl, rfl, rfl, rfl, rfl, rfl, rfl, Lib.hid rfl, _, rfl⟩
 case round =>
  obtain ⟨k, t, hk, rfl, rfl, rfl, rfl, rfl, rfl, rfl, rfl, rfl, ht, m, rfl⟩ := hrel
  obtain ⟨wr, hwr⟩ : ∃ wr, wr = W5.drewN m := ⟨_, rfl⟩
  rw [← hwr]
  by_cases hlt : k < 64
  ·clear hexit
   have hk64 : (k : Int) < 64 := by omega
   have cw : wr.cell? ⟨g5, k, none⟩ = some (.int .u32 (W l k)) := by rw [hwr]; exact HRW.out.cell k hlt
   have ck : wr.cell? ⟨1, k, none⟩ = some (.int .u32 (kN k)) := by rw [hwr]; exact HGl.out.consts k hlt
   have HT : Hid t.ok := by unfold Hid; rw [ht.out]; exact rnds_ok l HS.out k
   have r6 := Lib.hid (ror_any t.e 6 6 rfl HT.out.2.2.2.2.1 (by decide) (by decide))
   have r11 := Lib.hid (ror_any t.e 11 11 rfl HT.out.2.2.2.2.1 (by decide) (by decide))
   have r25 := Lib.hid (ror_any t.e 25 25 rfl HT.out.2.2.2.2.1 (by decide) (by decide))
   have r2 := Lib.hid (ror_any t.a 2 2 rfl HT.out.1 (by decide) (by decide))
   have r13 := Lib.hid (ror_any t.a 13 13 rfl HT.out.1 (by decide) (by decide))
   have r22 := Lib.hid (ror_any t.a 22 22 rfl HT.out.1 (by decide) (by decide))
   have HWR := Lib.hid hwr
   clear hwr
   go_wp2
   go_quiet ((first | (go_at_call 89; exact quiet_left (r6.out _)) | (go_at_call 89; exact quiet_left (r11.out _)) | (go_at_call 89; exact quiet_left (r25.out _)) ))
   go_wp2_with (first | (go_at_call 89; (with_reducible refine (r2.out _).mono ?_); rintro e w' ⟨rfl, rfl⟩) | (go_at_call 89; (with_reducible refine (r13.out _).mono ?_); rintro e w' ⟨rfl, rfl⟩) | (go_at_call 89; (with_reducible refine (r22.out _).mono ?_); rintro e w' ⟨rfl, rfl⟩))
   go_roundw
   case rel =>
    refine ⟨k + 1, rnd t (kN k) (W l k), by omega, by go_num, ?_, rfl, rfl, rfl, ?_, rfl, rfl, rfl, ?_, ?_⟩
    ·exact congrArg (Value.int IntKind.u32) (add_int1 _ _ 0 _ _ (u_int t HT.out (kN k) (W l k)) (v_int t HT.out))
    ·exact congrArg (Value.int IntKind.u32) (add_int2 _ _ _ (u_int t HT.out (kN k) (W l k)))
    ·exact Lib.hid (by rw [ht.out]; rfl)
    ·rw [HWR.out]
     exact ⟨m + nq, World.drewN_drewN _ _ _⟩
   case measure => simp [intOf]; omega
  ·obtain rfl : k = 64 := by omega
   have HE := Lib.hid hexit
   have HWR := Lib.hid hwr
   clear hexit hwr
   rw [show ((64 : Nat) : Int) = (64 : Int) from rfl]
   go_wp2
   rw [HWR.out]
   exact HE.out _ _ _ _ _ _ _ _ _ _ _ _ _ _ _ _ _ _ _ _ _ _ _ _ _ _ _ _ _ _ _ _ _ _ _ _ _ _ _ _ _ _ _ _ _ _ _ _ _ _ _ _ _ _ _ _ _ _ _ _ _ _ _ _ t m ht
end Go.Proofs.YtdbbcngolcnniaaGreatDoor.S3
/- What the numbers are behind one block more: behind of package sha. No condition but that the numbers have 32 bits, and the block 64 bytes; the table of the package stands in memory. -/
namespace Go.Proofs.YtdbbcngolcnniaaGreatDoor.S3
set_option linter.unusedSimpArgs false
open Go.RowKit
set_option linter.unusedVariables false
theorem cells_len (s : St) : (cells s).length = 8 := rfl
set_option maxRecDepth 100000 in
set_option maxHeartbeats 4000000 in
theorem behind_any (s : St) (hs : s.ok) (blk : ByteArray) (hb : blk.size = 64) (w : World) (hG : Glob w) :
  Calls Tryz.prog 67 #[.agg (cells s).toArray, .string blk] w fun e w' => e = .returned (.agg (cells (comp s blk.data.toList)).toArray) ∧ Below w.heap.size w w' := by
 have HG := Lib.hid hG
 have H2 := hG.two
 have HS := Lib.hid hs
 have HW := Lib.hid (words_any blk hb)
 obtain ⟨l, hl⟩ : ∃ l, Hid (l = blk.data.toList) := ⟨_, Lib.hid rfl⟩
 clear hG hs hb
 rw [← hl.out] at HW ⊢
 obtain ⟨cs, hcs⟩ : ∃ cs, Hid (cs = rowOf .u32 64 (W l)) := ⟨_, Lib.hid rfl⟩
 rw [← hcs.out] at HW
 have hsz : Hid ((Tryz.prog.info? 106).map (·.size) = some cs.length) := by unfold Hid; rw [hcs.out]; exact size53 _
 have hone : Hid (∀ v ∈ cs, v.oneCell' = true) := by unfold Hid; rw [hcs.out]; exact rowOf_one _ _ _
 have hlen : Hid ((rowOf .u32 64 (fun _ => 0)).toArray.size = cs.length) := by unfold Hid; rw [hcs.out, rowOf_length, rowOf_size]
 go_enter Tryz.func67, Tryz.ntmps67
 go_wp2_with (refine wpList_run rfl _ (exec_alloc_agg _ 48 rfl _ (zero39 _)) ?_)
 refine (HW.out _).mono ?_
 rintro e w1 ⟨rfl, hb1⟩
 have HB1 := Lib.hid hb1
 clear hb1
 go_wp2_with (first | (refine wpList_run rfl _ (exec_alloc_agg _ 106 rfl _ (zero53 _)) ?_) | (refine wpList_run0 rfl (exec_store_new w1 106 (.tmp 5) (.tmp 20) rfl _ 106 rfl cs rfl hlen.out hone.out hsz.out) ?_))
 have HR0 : Hid ((w1.alloc (.cells cs.toArray 106)).heap[w.heap.size]? = some (.cells (cells s).toArray 48 (0, 0))) := by
  unfold Hid
  rw [Below.heap_alloc _ _ _ (by have := HB1.out.size; simp at this; omega), HB1.out.block _ (by rw [World.size_alloc, World.size_alloc]; omega)]
  exact heap_alloc2_old w _ _
 have HR1 : Hid ((w1.alloc (.cells cs.toArray 106)).heap[w.heap.size + 1]? = some (.cells (cells s0).toArray 48 (0, 0))) := by
  unfold Hid
  rw [Below.heap_alloc _ _ _ (by have := HB1.out.size; simp at this; omega), HB1.out.block _ (by rw [World.size_alloc, World.size_alloc]; omega)]
  exact heap_alloc2_new w _ _
 have HRW : Hid (Row (w1.alloc (.cells cs.toArray 106)) w1.heap.size 106 .u32 64 (W l)) := by unfold Hid; rw [hcs.out]; exact Row.new w1 106 .u32 64 (W l)
 have HBl : Hid (Below w.heap.size w (w1.alloc (.cells cs.toArray 106))) := by
  unfold Hid
  have h1 : Below w.heap.size w w1 := (((Below.refl _ w).alloc (Nat.le_refl _) _).alloc (by simp) _).trans (HB1.out.mono (by simp; omega))
  exact h1.alloc h1.size _
 have hgw : w.heap.size + 1 < w1.heap.size := by have := HB1.out.size; simp at this; omega
 obtain ⟨g5, hg5⟩ : ∃ g5, g5 = w1.heap.size := ⟨_, rfl⟩
 rw [← hg5] at HRW hgw ⊢
 obtain ⟨W5, hW5⟩ : ∃ W5, W5 = w1.alloc (.cells cs.toArray 106) := ⟨_, rfl⟩
 rw [← hW5] at HR0 HR1 HRW HBl ⊢
 clear hW5 hg5 HB1 hlen hone hsz HW hcs
 clear w1
 have c0 : W5.cell? ⟨w.heap.size, 0, none⟩ = some (.int .u32 s.a) := by rw [cell_of_row _ _ _ _ _ _ HR0.out]; rfl
 have c1 : W5.cell? ⟨w.heap.size, 1, none⟩ = some (.int .u32 s.b) := by rw [cell_of_row _ _ _ _ _ _ HR0.out]; rfl
 have c2 : W5.cell? ⟨w.heap.size, 2, none⟩ = some (.int .u32 s.c) := by rw [cell_of_row _ _ _ _ _ _ HR0.out]; rfl
 have c3 : W5.cell? ⟨w.heap.size, 3, none⟩ = some (.int .u32 s.d) := by rw [cell_of_row _ _ _ _ _ _ HR0.out]; rfl
 have c4 : W5.cell? ⟨w.heap.size, 4, none⟩ = some (.int .u32 s.e) := by rw [cell_of_row _ _ _ _ _ _ HR0.out]; rfl
 have c5 : W5.cell? ⟨w.heap.size, 5, none⟩ = some (.int .u32 s.f) := by rw [cell_of_row _ _ _ _ _ _ HR0.out]; rfl
 have c6 : W5.cell? ⟨w.heap.size, 6, none⟩ = some (.int .u32 s.g) := by rw [cell_of_row _ _ _ _ _ _ HR0.out]; rfl
 have c7 : W5.cell? ⟨w.heap.size, 7, none⟩ = some (.int .u32 s.h) := by rw [cell_of_row _ _ _ _ _ _ HR0.out]; rfl
 go_quiet (fail)
 clear c0 c1 c2 c3 c4 c5 c6 c7
 go_wp2
 refine loop1_ok s l g5 _ W5 _ _ _ _ _ _ _ _ _ _ _ _ _ _ _ _ _ _ _ _ _ _ _ _ _ _ _ _ _ _ _ _ _ _ _ _ _ _ _ _ _ _ _ _ _ _ _ _ _ _ _ _ _ _ _ _ _ _ _ _ _ _ _ _ _ _ _ _ _ _ _ _ _ _ _ _ _ _ _ _ _ _ _ _ _ _ _ _ _ _ _ _ _ _ _ _ _ _ _ _ _ _ _ _ _ _ _ _ _ _ _ _ HS (Lib.hid (HG.out.below HBl.out)) HRW ?_
 rintro u14 u15 u16 u39 u40 u41 u42 u43 u44 u45 u46 u47 u48 u49 u50 u51 u52 u53 u54 u55 u56 u57 u58 u59 u60 u61 u62 u63 u64 u65 u66 u67 u68 u69 u70 u71 u72 u73 u74 u75 u76 u77 u78 u79 u80 u81 u82 u83 u84 u85 u86 u87 u88 u89 u90 u91 u92 u93 u94 u95 u96 u97 u98 u99 t m ht
 obtain ⟨wr, hwr⟩ : ∃ wr, wr = W5.drewN m := ⟨_, rfl⟩
 rw [← hwr]
 have HFin : Hid (plus s t = comp s l) := by unfold Hid; rw [ht.out]; rfl
 have HGw : Hid (Below w.heap.size w wr) := by unfold Hid; rw [hwr]; exact Below.drewN' HBl.out m
 have HRr : Hid (wr.heap[w.heap.size + 1]? = some (.cells (cells s0).toArray 48 (0, 0))) := by unfold Hid; rw [hwr]; exact HR1.out
 have HRs : Hid (Row wr w.heap.size 48 .u32 8 (PTo s t 0)) := by unfold Hid; rw [hwr]; exact HR0.out
 clear hwr HR0 HR1 HRW HBl ht
 go_wp2
 refine loop2_ok s t w.heap.size w wr _ _ _ _ _ _ _ _ _ _ _ _ _ _ _ _ _ _ _ _ _ _ _ _ _ _ _ _ _ _ _ _ _ _ _ _ _ _ _ _ _ _ _ _ _ _ _ _ _ _ _ _ _ _ _ _ _ _ _ _ _ _ _ _ _ _ _ _ _ _ _ _ _ _ _ _ _ _ _ _ _ _ _ _ _ _ _ _ _ _ _ _ _ _ _ _ _ _ _ _ _ _ _ _ _ _ _ _ _ _ _ _ _ _ _ _ _ _ _ HRr.out HRs.out HGw.out ?_
 clear HRr HRs HGw
 rintro u17 u18 u110 u111 u112 u113 u114 u115 u116 u117 u118 u119 wr ⟨hRr, hRs, hBw⟩
 have HRr := Lib.hid hRr
 have HRs := Lib.hid hRs
 have HBw := Lib.hid hBw
 clear hRr hRs hBw
 obtain ⟨cf, hcf⟩ : ∃ cf, Hid (cf = cells (comp s l)) := ⟨_, Lib.hid rfl⟩
 have HRc : Hid (wr.heap[w.heap.size]? = some (.cells cf.toArray 48 (0, 0))) := by unfold Hid; rw [hcf.out, ← HFin.out, ← PTo_all]; exact HRs.out
 have hseg : Hid (∀ j v, cf[j]? = some v → wr.cell? ⟨w.heap.size, 0 + j, none⟩ = some v) := by
  intro j v hv
  rw [cell_of_row _ _ _ _ _ _ HRc.out, Nat.zero_add, List.getElem?_toArray, hv]
 have hsz : Hid ((Tryz.prog.info? 48).map (·.size) = some cf.length) := by unfold Hid; rw [hcf.out]; exact cells_size _
 have hone : Hid (∀ v ∈ cf, v.oneCell' = true) := by unfold Hid; rw [hcf.out]; exact cells_one _
 have hfit : Hid (0 + cf.length ≤ (cells s0).toArray.size) := by unfold Hid; rw [hcf.out, cells_len, List.size_toArray, cells_len]; exact Nat.le_refl _
 have hsz8 : Hid ((cells s0).toArray.size = cf.length) := by unfold Hid; rw [hcf.out, cells_len, List.size_toArray, cells_len]
 clear HRs
 go_wp2_with (first | (refine wpList_load_seg rfl 48 (.tmp 2) rfl w.heap.size 0 rfl cf _ hseg.out Tryz.underlying48 rfl hsz.out ?_) | (refine wpList_store_seg rfl 48 (.tmp 4) (.tmp 120) rfl (w.heap.size + 1) 0 rfl cf rfl _ 48 HRr.out hfit.out hone.out hsz.out ?_))
 have hsp : splice (cells s0).toArray 0 cf = cf.toArray := splice_all _ _ hsz8.out
 rw [hsp]
 have hld : (loadVar 48 ⟨w.heap.size + 1, 0, none⟩).run Tryz.prog (wr.setRow (w.heap.size + 1) cf.toArray) = .ok (.agg cf.toArray) (wr.setRow (w.heap.size + 1) cf.toArray) := by
  refine run_loadVar_seg _ 48 (w.heap.size + 1) 0 cf _ (fun j v hv => ?_) Tryz.underlying48 rfl hsz.out
  rw [cell_of_row _ (w.heap.size + 1) (0 + j) cf.toArray 48 (0, 0) (setRow_heap _ _ _ _ _ _ HRr.out), Nat.zero_add, List.getElem?_toArray, hv]
 have hbel : Below w.heap.size w (wr.setRow (w.heap.size + 1) cf.toArray) := by
  exact HBw.out.trans ⟨rfl, rfl, rfl, by simp, fun k hk => setRow_other _ _ _ _ (by omega)⟩
 generalize wr.setRow (w.heap.size + 1) cf.toArray = W2 at *
 exact bodyPost_ret (v := .agg cf.toArray) (results_cell rfl _ _ _ ⟨w.heap.size + 1, 0, none⟩ rfl _ hld) rfl ⟨by rw [hcf.out], hbel⟩
end Go.Proofs.YtdbbcngolcnniaaGreatDoor.S3
