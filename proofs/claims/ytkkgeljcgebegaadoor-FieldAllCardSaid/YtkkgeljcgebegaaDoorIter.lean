/- The iterator of package field over a number's words: what it hands its rounds, whatever they do. No condition. -/
import Derived.Test.YtkkgeljcgebegaaDoorWord
namespace Go.Proofs.YtkkgeljcgebegaaDoor
open Go.RowKit Go.Shelf
set_option linter.unusedVariables false
attribute [local go_sem] Oper.semAt_some

theorem size24 (f : Nat → Nat) : (Tryd.prog.info? 24).map (·.size) = some (rowOf .u64 4 f).length := by rw [rowOf_length]; kernel_rfl
theorem zero24 (w : World) : (zeroValue 24).run Tryd.prog w = .ok (.agg (rowOf .u64 4 (fun _ => 0)).toArray) w := by kernel_rfl
theorem heapA (w : World) (o : Obj) : (w.alloc o).heap = w.heap.push o := rfl
theorem bel_alloc {B : Nat} {w W : World} (h : Below B w W) (hB : B ≤ W.heap.size) (o : Obj) : Below B w (W.alloc o) := h.alloc hB o
theorem exec_load_of {P : Program} {ρ : Operand → Value} {o : Oper} (w : World) (ty : TypeId) (x : Operand) (ho : o.op = .load ty x) (ad : Addr) (hx : ρ x = .pointer (some ad)) (v : Value) (hl : (loadVar ty ad).run P w = .ok v w) :
    (execOp ρ o).run P w = .ok (.value v) w := by
  unfold execOp
  simp only [ho, hx, Instr.loadAt, Instr.sureAddr, Sem.run_bind, Sem.run_pure, Result.andThen_ok, hl]
/-- What the iterator hands its rounds. -/
def encW (f : Nat → Nat) (x : Fin 4) : Array Value := #[.int .i64 (x.1 : Int), .int .u64 (f x.1 : Int)]
theorem index24 (f : Nat → Nat) (k : Nat) (hk : k < 4) (w : World) : (Instr.index 24 (.agg (rowOf .u64 4 f).toArray) (.int .i64 (k : Int))).run Tryd.prog w = .ok (.int .u64 (f k)) w := by
  rcases (show k = 0 ∨ k = 1 ∨ k = 2 ∨ k = 3 by omega) with rfl | rfl | rfl | rfl <;> kernel_rfl
def firsts4 (k : Nat) (hk : k ≤ 4) : List (Fin 4) := (List.finRange k).map fun x => ⟨x.1, by omega⟩
theorem firsts4_length (k : Nat) (hk : k ≤ 4) : (firsts4 k hk).length = k := by simp [firsts4]
theorem firsts4_succ (k : Nat) (hk : k + 1 ≤ 4) : firsts4 (k + 1) hk = firsts4 k (by omega) ++ [⟨k, by omega⟩] := by
  simp [firsts4, List.finRange_succ_last]
theorem firsts4_all : firsts4 4 (Nat.le_refl _) = List.finRange 4 := by simp [firsts4]

theorem words_in (n : Nat) (A : Array Value) (w : World) :
    CallsIn Fence.wide n Tryd.prog 39 #[.agg A] w fun e w' => e = .returned (.func (.func 46) #[] #[.pointer (some ⟨w.heap.size, 0, none⟩)]) ∧ w.alloc (.cells A 24) = w' := by
  refine callsIn_of_wp Tryd.func39 rfl trivial ?_ rfl
  simp only [Tryd.ntmps39, List.size_toArray, List.length_cons, List.length_nil, Nat.reduceAdd, Nat.reduceSub, Array.replicate_succ, Array.replicate_zero, List.push_toArray, List.append_toArray, List.nil_append, List.cons_append]
  gi_wp2
  go_ret
  exact ⟨rfl, rfl⟩

set_option maxHeartbeats 1000000 in
theorem words1_in (m l Bp : Nat) (f : Nat → Nat) (J Jx : List (Fin 4) → World → Prop)
    (hY : ∀ pre x W, J pre W → pre.length < 4 → YieldAt Fence.wide (m - 1) Tryd.prog l (encW f x) W fun e W' =>
      (e = .returned (.bool true) ∧ J (pre ++ [x]) W' ∧ True) ∨ (e = .returned (.bool false) ∧ Jx (pre ++ [x]) W'))
    (W : World) (hbox : Row W Bp 24 .u64 4 f) (h0 : J [] W) (hm : 1 ≤ m) :
    CallsIn Fence.wide m Tryd.prog 46 #[.func (.yield l) #[] #[], .pointer (some ⟨Bp, 0, none⟩)] W fun e W' => (∃ v, e = .returned v) ∧ ((∃ xs, xs = List.finRange 4 ∧ J xs W') ∨ (∃ pre, True ∧ Jx pre W')) := by
  refine callsIn_of_wp Tryd.func46 rfl trivial ?_ rfl
  simp only [Tryd.ntmps46, List.size_toArray, List.length_cons, List.length_nil, Nat.reduceAdd, Nat.reduceSub, Array.replicate_succ, Array.replicate_zero, List.push_toArray, List.append_toArray, List.nil_append, List.cons_append]
  have HSEG := Lib.hid hbox.seg
  have HSZ := Lib.hid (size24 f)
  have HIX := Lib.hid (index24 f)
  obtain ⟨A, hA⟩ : ∃ A, Hid (A = (rowOf .u64 4 f).toArray) := ⟨_, Lib.hid rfl⟩
  rw [← hA.out] at HIX
  have HLD : Hid ((loadVar 24 ⟨Bp, 0, none⟩).run Tryd.prog W = .ok (.agg A) W) := by rw [hA.out]; exact Lib.hid (run_loadVar_seg W 24 Bp 0 (rowOf .u64 4 f) _ hbox.seg Tryd.underlying24 rfl (size24 f))
  clear hbox hA HSEG HSZ
  gi_wp2_with (refine wpListIn_run rfl rfl rfl _ (exec_load_of _ 24 (.tmp 1) rfl ⟨Bp, 0, none⟩ rfl _ HLD.out) ?_)
  clear HLD
  gi_loopw [6] (fun i wr => ∃ k : Nat, ∃ hk : k ≤ 4, i = .int .i64 k ∧ J (firsts4 k hk) wr)
    (fun i _ => 4 - (intOf i).toNat)
  case atStart => exact ⟨0, Nat.zero_le _, rfl, h0⟩
  case round =>
    obtain ⟨k, hk, rfl, hJs⟩ := hrel
    by_cases hlt : k < 4
    · obtain ⟨fn, tmps, assign, body, hy, hR⟩ := hY (firsts4 k hk) (⟨k, hlt⟩ : Fin 4) wr hJs (by rw [firsts4_length]; exact hlt)
      have hR2 := Lib.hid hR
      have hix := HIX.out k hlt
      have hy2 : (Instr.yield l #[.int .i64 (k : Int), .int .u64 (f k : Int)]).run Tryd.prog wr = .ok (.round l fn tmps assign body) wr := hy
      have hK := Lib.hid hY
      clear hY hJs hR HIX hy
      gi_wp2
      refine hR2.out.mono ?_
      rintro e W3 (⟨rfl, hJ3, -⟩ | ⟨rfl, hJx3⟩)
      · gi_wp2
        go_roundw
        case rel => exact ⟨k + 1, by omega, by simp, by rw [firsts4_succ]; exact hJ3⟩
        case measure => simp [intOf]; omega
      · gi_wp2
        refine bodyPost_ret (results_none rfl _ _ _) rfl ?_
        exact ⟨⟨_, rfl⟩, Or.inr ⟨_, trivial, hJx3⟩⟩
    · have hkl : k = 4 := by omega
      have HJ : Hid (J (List.finRange 4) wr) := by subst hkl; unfold Hid; rw [← firsts4_all]; exact hJs
      clear hJs hY h0
      subst hkl
      gi_wp2
      go_end0
      exact ⟨⟨_, rfl⟩, .inl ⟨_, rfl, HJ.out⟩⟩
theorem load24 {W : World} {g : Nat} {f : Nat → Nat} (h : Row W g 24 .u64 4 f) : (loadVar 24 ⟨g, 0, none⟩).run Tryd.prog W = .ok (.agg (rowOf .u64 4 f).toArray) W :=
  run_loadVar_seg W 24 g 0 (rowOf .u64 4 f) _ h.seg Tryd.underlying24 rfl (size24 f)
theorem results_two {fn : Func} {a b : Tmp} {t : TypeId} (h : fn.results = #[.cell a t, .tmp b]) (tmps : Array Value) (P : Program) (w : World) (ad : Addr) (ha : tmps.getD a undef = .pointer (some ad)) (v : Value)
    (hl : (loadVar t ad).run P w = .ok v w) : (results fn tmps).run P w = .ok (.tuple #[v, tmps.getD b undef]) w := by
  have ha2 : tmps[a]?.getD undef = .pointer (some ad) := by rw [← Array.getD_eq_getD_getElem?]; exact ha
  unfold results
  rw [h]
  simp [Array.mapM_eq_mapM_toList, ha2, asAddr, hl]
/-- A number's four words. -/
def IsNum (A : Array Value) : Prop := ∃ f : Nat → Nat, A = (rowOf .u64 4 f).toArray
theorem isNum (N : Nat) : IsNum (num N) := ⟨_, rfl⟩
theorem exec_store24 {ρ : Operand → Value} {o : Oper} (w : World) (x y : Operand) (ho : o.op = .store 24 x y) (g : Nat) (hx : ρ x = .pointer (some ⟨g, 0, none⟩)) (A : Array Value) (hA : IsNum A) (hy : ρ y = .agg A) (cur : Array Value) (t : TypeId)
    (hg : w.heap[g]? = some (.cells cur t (0, 0))) (h4 : cur.size = 4) : (execOp ρ o).run Tryd.prog w = .ok .skip (w.setRow g A) := by
  obtain ⟨f, rfl⟩ := hA
  have h := exec_store_seg (P := Tryd.prog) (ρ := ρ) (o := o) w 24 x y ho g 0 hx (rowOf .u64 4 f) hy cur t hg (by rw [rowOf_length]; omega) (rowOf_one _ _ _) (size24 f)
  rw [splice_all _ _ (by rw [rowOf_length]; exact h4)] at h
  exact h
theorem loadA {W : World} {g : Nat} {A : Array Value} (hA : IsNum A) (hg : W.heap[g]? = some (.cells A 24 (0, 0))) : (loadVar 24 ⟨g, 0, none⟩).run Tryd.prog W = .ok (.agg A) W := by
  obtain ⟨f, rfl⟩ := hA
  exact load24 hg
/-- The iterator over a number's words, whatever the rounds do. -/
theorem words_stops (m Bp : Nat) (f : Nat → Nat) (w : World) (hbox : Row w Bp 24 .u64 4 f) (hm : 1 ≤ m) :
    SeqStopsK Fence.wide m Tryd.prog 46 #[.pointer (some ⟨Bp, 0, none⟩)] (encW f) (fun _ _ => True) (fun xs => xs = List.finRange 4) (fun _ => True) 4 w := by
  intro l J Jx W hW hJ hJx hY h0
  exact words1_in m l Bp f J Jx hY W (hbox.below hW) h0 hm
end Go.Proofs.YtkkgeljcgebegaaDoor
