/- Several texts, one behind the other; each says by itself what it proves, and on what conditions. -/
import Derived.Test.YtdajmekliodmcaaGreatDoorT21
import Derived.OrdersHeld
import Derived.StillTail
import Derived.Lib.Hide
import Derived.Still
import Derived.Laws.StructEq
import Derived.Laws.Cover2
import Derived.Laws.Tables
/- Rows of four words, loaded and stored whole. No condition. -/
namespace Go.Proofs.YtdajmekliodmcaaGreatDoor.S7
set_option linter.unusedSimpArgs false
open Go.RowKit Go.Shelf
set_option linter.unusedVariables false
attribute [local go_sem] Oper.semAt_some

theorem size24 (f : Nat → Nat) : (Tryz.prog.info? 36).map (·.size) = some (rowOf .u64 4 f).length := by rw [rowOf_length]; kernel_rfl
theorem zero24 (w : World) : (zeroValue 36).run Tryz.prog w = .ok (.agg (rowOf .u64 4 (fun _ => 0)).toArray) w := by kernel_rfl
theorem exec_load_of {P : Program} {ρ : Operand → Value} {o : Oper} (w : World) (ty : TypeId) (x : Operand) (ho : o.op = .load ty x) (ad : Addr) (hx : ρ x = .pointer (some ad)) (v : Value) (hl : (loadVar ty ad).run P w = .ok v w) :
    (execOp ρ o).run P w = .ok (.value v) w := by
  unfold execOp
  simp only [ho, hx, Instr.loadAt, Instr.sureAddr, Sem.run_bind, Sem.run_pure, Result.andThen_ok, hl]
theorem index24 (f : Nat → Nat) (k : Nat) (hk : k < 4) (w : World) : (Instr.index 36 (.agg (rowOf .u64 4 f).toArray) (.int .i64 (k : Int))).run Tryz.prog w = .ok (.int .u64 (f k)) w := by
  rcases (show k = 0 ∨ k = 1 ∨ k = 2 ∨ k = 3 by omega) with rfl | rfl | rfl | rfl <;> kernel_rfl
theorem load24 {W : World} {g : Nat} {f : Nat → Nat} (h : Row W g 36 .u64 4 f) : (loadVar 36 ⟨g, 0, none⟩).run Tryz.prog W = .ok (.agg (rowOf .u64 4 f).toArray) W :=
  run_loadVar_seg W 36 g 0 (rowOf .u64 4 f) _ h.seg Tryz.underlying36 rfl (size24 f)
theorem results_two {fn : Func} {a b : Tmp} {t : TypeId} (h : fn.results = #[.cell a t, .tmp b]) (tmps : Array Value) (P : Program) (w : World) (ad : Addr) (ha : tmps.getD a undef = .pointer (some ad)) (v : Value)
    (hl : (loadVar t ad).run P w = .ok v w) : (results fn tmps).run P w = .ok (.tuple #[v, tmps.getD b undef]) w := by
  have ha2 : tmps[a]?.getD undef = .pointer (some ad) := by rw [← Array.getD_eq_getD_getElem?]; exact ha
  unfold results
  rw [h]
  simp [Array.mapM_eq_mapM_toList, ha2, asAddr, hl]
/-- A number's four words. -/
def IsNum (A : Array Value) : Prop := ∃ f : Nat → Nat, A = (rowOf .u64 4 f).toArray
theorem isNum (N : Nat) : IsNum (num N) := ⟨_, rfl⟩
theorem exec_store24 {ρ : Operand → Value} {o : Oper} (w : World) (x y : Operand) (ho : o.op = .store 36 x y) (g : Nat) (hx : ρ x = .pointer (some ⟨g, 0, none⟩)) (A : Array Value) (hA : IsNum A) (hy : ρ y = .agg A) (cur : Array Value) (t : TypeId)
    (hg : w.heap[g]? = some (.cells cur t (0, 0))) (h4 : cur.size = 4) : (execOp ρ o).run Tryz.prog w = .ok .skip (w.setRow g A) := by
  obtain ⟨f, rfl⟩ := hA
  have h := exec_store_seg (P := Tryz.prog) (ρ := ρ) (o := o) w 36 x y ho g 0 hx (rowOf .u64 4 f) hy cur t hg (by rw [rowOf_length]; omega) (rowOf_one _ _ _) (size24 f)
  rw [splice_all _ _ (by rw [rowOf_length]; exact h4)] at h
  exact h
theorem loadA {W : World} {g : Nat} {A : Array Value} (hA : IsNum A) (hg : W.heap[g]? = some (.cells A 36 (0, 0))) : (loadVar 36 ⟨g, 0, none⟩).run Tryz.prog W = .ok (.agg A) W := by
  obtain ⟨f, rfl⟩ := hA
  exact load24 hg
end Go.Proofs.YtdajmekliodmcaaGreatDoor.S7
/- A region that draws its order, inside a fence: what yields its value in every world that meets a condition of its own may be taken first; that condition is shown anew behind each operation that does not wait for it. With a call of yield as one of its operations. No condition of its own. -/
namespace Go.Proofs.YtdajmekliodmcaaGreatDoor.S7
set_option linter.unusedSimpArgs false
open Go.RowKit
set_option linter.unusedVariables false

section
variable {P : Program}
theorem anyDepthR {F : Fence} (hd : F.depth = none) {m m2 : Nat} {l : Nat} {f : FuncId} {tmps : Array Value} {assign body : Code} {w : World} {R : Ending → World → Prop}
    (h : RoundIn F m P l f tmps assign body w R) : RoundIn F m2 P l f tmps assign body w R := ⟨h.1, fun c cs _ => h.2 c cs (fun d hd2 => by rw [hd] at hd2; cases hd2)⟩
theorem anyDepthY {F : Fence} (hd : F.depth = none) {m : Nat} (m2 : Nat) {l : Nat} {args : Array Value} {W : World} {R : Ending → World → Prop} (h : YieldAt F m P l args W R) : YieldAt F m2 P l args W R := by
  obtain ⟨fn, tmps, assign, body, hy, hR⟩ := h
  exact ⟨fn, tmps, assign, body, hy, anyDepthR hd hR⟩

end

section
variable {F : Fence} {n : Nat} {P : Program} {ops : Array Oper} {Q : Exit → Act → World → Prop} {md : Region.Mode} {S : Nat → World → Prop}

/-- In every world that meets T the operation yields v, does nothing else, and is about to make no call. -/
def YieldsS (P : Program) (ops : Array Oper) (T : World → Prop) (o : Oper) (v : Value) (a : Act) : Prop :=
  (Region.wanted o (yielded ops a.tmps) = true ∧ ∀ w, T w → (execOp a.eval o).run P w = .ok (.value v) w) ∧ ∀ w, o.about P w a.eval = none

theorem YieldsS.wpOpIn {T : World → Prop} {i : Nat} {o : Oper} {v : Value} {a : Act} (hro : F.round = none) (hi : ops[i]? = some o) (hy : YieldsS P ops T o v a)
    {K : Act → World → Prop} {w : World} (hT : T w) (h : K (a.put o.dst v) w) : wpOpIn F n P ops Q i K a w := by
  unfold Go.wpOpIn
  simp only [hi]
  have hab : ∀ f, o.about P w a.eval = some f → F.fn f := fun f hf => by rw [hy.2 w] at hf; cases hf
  obtain ⟨hw, hv⟩ := hy.1
  simp only [hw, if_true, Oper.wpIn, hro, Oper.semAt_none, hv w hT, Oper.uponIn]
  exact ⟨hab, h⟩

theorem YieldsS.of_same {T : World → Prop} {o : Oper} {v : Value} {a a2 : Act} (hy : YieldsS P ops T o v a) (he : execOp a2.eval o = execOp a.eval o)
    (hw : Region.wanted o (yielded ops a2.tmps) = Region.wanted o (yielded ops a.tmps)) (hb : ∀ w, o.about P w a2.eval = o.about P w a.eval) : YieldsS P ops T o v a2 := by
  refine ⟨?_, fun w => by rw [hb w]; exact hy.2 w⟩
  rw [he, hw]
  exact hy.1

theorem wpOpIn_putS {T : World → Prop} {j : Nat} {oi oj : Oper} {v : Value} (hro : F.round = none) (hj : ops[j]? = some oj) (hap : oi.apart ops oj = true)
    (hsi : ∀ cs b, oi.op ≠ .select cs b) (hsj : ∀ cs b, oj.op ≠ .select cs b)
    (hQ : ∀ c a w, Q (.panic c) (a.put oi.dst v) w → Q (.panic c) a w) {K : Act → World → Prop} {a : Act} {w : World}
    (hy : YieldsS P ops T oi v a) (h : wpOpIn F n P ops Q j K (a.put oi.dst v) w) :
    wpOpIn F n P ops Q j (fun a2 w2 => YieldsS P ops T oi v a2 ∧ K (a2.put oi.dst v) w2) a w := by
  obtain ⟨h1, h2, h3⟩ := Oper.apart_spec hap
  have keep : ∀ (a : Act), YieldsS P ops T oi v a → ∀ u, YieldsS P ops T oi v (a.put oj.dst u) := fun a hy u =>
    hy.of_same (execOp_put oi hsi a oj.dst u h3) (wanted_put oi a oj.dst u h3) (fun w => about_put oi w a oj.dst u h3)
  have keepD : ∀ d, YieldsS P ops T oi v { a with defers := d :: a.defers } := fun d => hy.of_same rfl rfl (fun _ => rfl)
  unfold wpOpIn at *
  simp only [hj] at *
  rw [wanted_put oj a oi.dst v h1, about_put oj w a oi.dst v h1] at h
  split
  · rename_i hw
    simp only [hw, if_true] at h
    unfold Oper.wpIn at *
    rw [about_put oj w a oi.dst v h1] at h
    refine ⟨h.1, ?_⟩
    have h := h.2
    rw [hro, Oper.semAt_none, execOp_put oj hsj a oi.dst v h1] at h
    rw [hro, Oper.semAt_none]
    generalize (execOp a.eval oj).run P w = r at *
    cases r with
    | ok x w2 =>
      cases x <;> simp only [Oper.uponIn] at h ⊢
      case value u => exact ⟨keep a hy u, by rw [← Act.put_comm a v u h2]; exact h⟩
      case skip => exact ⟨keep a hy _, by rw [← Act.put_comm a v undef h2]; exact h⟩
      case defer d =>
        refine ⟨keep _ (keepD d) _, ?_⟩
        rw [← Act.put_comm _ v undef h2, ← Act.put_defers]
        exact h
      case enter f args =>
        refine ⟨h.1, CallsIn.mono h.2 fun e w3 he => ?_⟩
        cases e with
        | returned u => exact ⟨keep a hy u, by rw [← Act.put_comm a v u h2]; exact he⟩
        | panicked c => exact hQ _ _ _ he
        | outgrown => exact he
      case row row args => exact ⟨h.1, RowsIn.mono h.2 fun u w3 he => ⟨keep a hy u, by rw [← Act.put_comm a v u h2]; exact he⟩⟩
      case round l f tmps assign body =>
        refine ⟨h.1, RoundIn.mono h.2 fun e w3 he => ?_⟩
        cases e with
        | returned u => exact ⟨keep a hy u, by rw [← Act.put_comm a v u h2]; exact he⟩
        | panicked c => exact hQ _ _ _ he
        | outgrown => exact he
    | halt x w2 =>
      cases x <;> simp only [Oper.uponIn] at h ⊢
      case panic u => exact hQ _ _ _ h
  · rename_i hw
    simp only [hw] at h
    exact ⟨h.1, keep a hy _, by rw [← Act.put_comm a v undef h2]; exact h.2⟩

/-- j waits for i, by whatever many steps up to k. -/
def waitsT (md : Region.Mode) (ops : Array Oper) : Nat → Nat → Nat → Bool
  | 0, _, _ => false
  | k + 1, j, i => Region.waitsFor md ops j i || (List.range ops.size).any fun m => Region.waitsFor md ops j m && waitsT md ops k m i

/-- What one that has come up waits for has come up. -/
def closedB (md : Region.Mode) (ops : Array Oper) (listed : Array Bool) : Bool :=
  (List.range ops.size).all fun x => !(listed.getD x false) || (List.range ops.size).all fun y => !(Region.waitsFor md ops x y) || listed.getD y false
def Closed (md : Region.Mode) (ops : Array Oper) (listed : Array Bool) : Prop :=
  ∀ x y, x < ops.size → y < ops.size → listed.getD x false = true → Region.waitsFor md ops x y = true → listed.getD y false = true
theorem closed_of {listed : Array Bool} (h : closedB md ops listed = true) : Closed md ops listed := by
  intro x y hx hy hl hw
  have h1 := List.all_eq_true.1 h x (List.mem_range.2 hx)
  rw [hl] at h1
  simp only [Bool.not_true, Bool.false_or] at h1
  have h2 := List.all_eq_true.1 h1 y (List.mem_range.2 hy)
  rw [hw] at h2
  simpa using h2
theorem waits_listed {listed : Array Bool} (hc : Closed md ops listed) : ∀ (k j i : Nat), i < ops.size → (∀ y, y < ops.size → Region.waitsFor md ops j y = true → listed.getD y false = true) → waitsT md ops k j i = true → listed.getD i false = true
  | 0, _, _, _, _, h => by cases h
  | k + 1, j, i, hi, hd, h => by
    unfold waitsT at h
    simp only [Bool.or_eq_true, List.any_eq_true, Bool.and_eq_true, List.mem_range] at h
    rcases h with h | ⟨m, hm, h1, h2⟩
    · exact hd i hi h
    · exact waits_listed hc k m i hi (fun y hy hw => hc m y hm hy (hd m hm h1) hw) h2
theorem ready_waits {listed : Array Bool} {j : Nat} (hj : j ∈ Region.ready md ops listed) : ∀ y, Region.waitsFor md ops j y = true → listed.getD y false = true := by
  intro y hw
  obtain ⟨_, oj, hoj, hall⟩ := mem_ready.1 hj
  obtain ⟨o2, h1, e, he, hb, hon⟩ := Region.waitsFor_spec hw
  rw [hoj] at h1
  cases h1
  rw [← hon]
  exact hall e he hb
theorem closed_set {listed : Array Bool} {j : Nat} (hc : Closed md ops listed) (hj : j ∈ Region.ready md ops listed) : Closed md ops (listed.setIfInBounds j true) := by
  have keep : ∀ y, listed.getD y false = true → (listed.setIfInBounds j true).getD y false = true := by
    intro y hy
    by_cases hyj : j = y
    · subst hyj
      have hlt : j < listed.size := by
        rcases Nat.lt_or_ge j listed.size with h | h
        · exact h
        · simp [Array.getElem?_eq_none h] at hy
      simp [hlt]
    · rw [getD_set_ne false hyj]; exact hy
  intro x y hx hy hl hw
  by_cases hxj : j = x
  · subst hxj
    exact keep y (ready_waits hj y hw)
  · rw [getD_set_ne false hxj] at hl
    exact keep y (hc x y hx hy hl hw)

/-- Whatever order is picked from here on. T: those that may be taken first: they turn nothing; behind each other one S i holds for each i of T that it does not wait for. -/
def AnyG (F : Fence) (n : Nat) (P : Program) (md : Region.Mode) (ops : Array Oper) (Q : Exit → Act → World → Prop) (T : Nat → Bool) (S : Nat → World → Prop) : Nat → Array Bool → Act → World → Prop
  | 0, listed, a, w => Region.ready md ops listed = [] ∧ Q .normal a w
  | k + 1, listed, a, w => (Region.ready md ops listed = [] → Q .normal a w) ∧
    ∀ j ∈ Region.ready md ops listed, wpOpIn F n P ops Q j (fun a2 w2 => ((T j = true → w2 = w) ∧ (T j = false → ∀ i, i < ops.size → T i = true → waitsT md ops ops.size j i = false → S i w2)) ∧ AnyG F n P md ops Q T S k (listed.setIfInBounds j true) a2 w2) a w

theorem AnyG.first {T : Nat → Bool} {i : Nat} {oi : Oper} {v : Value} (hro : F.round = none) (hi : ops[i]? = some oi) (hT : T i = true) (hsel : ∀ (j : Nat) (o : Oper) cs b, ops[j]? = some o → o.op ≠ .select cs b)
    (hQ : ∀ c a w, Q (.panic c) (a.put oi.dst v) w → Q (.panic c) a w) :
    ∀ (k : Nat) (listed : Array Bool) (a : Act) (w : World),
      (∀ j oj, ops[j]? = some oj → j ≠ i → listed.getD j true = false → (∀ e ∈ oj.after, Region.binds md e = true → e.on ≠ i) → oi.apart ops oj = true) → Closed md ops listed →
      i ∈ Region.ready md ops listed → YieldsS P ops (S i) oi v a → S i w → AnyG F n P md ops Q T S k (listed.setIfInBounds i true) (a.put oi.dst v) w → AnyG F n P md ops Q T S (k + 1) listed a w := by
  have hio : i < ops.size := (Array.getElem?_eq_some_iff.1 hi).1
  intro k
  induction k with
  | zero =>
    intro listed a w _ _ hr hy hS H
    refine ⟨fun h => (by rw [h] at hr; cases hr), fun j hj => ?_⟩
    by_cases hji : j = i
    · subst hji
      exact hy.wpOpIn hro hi hS ⟨⟨fun _ => rfl, fun h => by rw [hT] at h; cases h⟩, H⟩
    · have := ready_mono hj hji
      rw [H.1] at this
      cases this
  | succ k ih =>
    intro listed a w hfree hc hr hy hS H
    refine ⟨fun h => (by rw [h] at hr; cases hr), fun j hj => ?_⟩
    by_cases hji : j = i
    · subst hji
      exact hy.wpOpIn hro hi hS ⟨⟨fun _ => rfl, fun h => by rw [hT] at h; cases h⟩, H⟩
    · have h1 := H.2 j (ready_mono hj hji)
      obtain ⟨hjun, oj, hoj, hall⟩ := mem_ready.1 hj
      have hun0 : listed.getD i true = false := (mem_ready.1 hr).1
      have hun1 : listed.getD i false = false := by
        rcases Nat.lt_or_ge i listed.size with h' | h'
        · simp [h'] at hun0 ⊢; exact hun0
        · simp [Array.getElem?_eq_none h'] at hun0
      have hnot : ∀ e ∈ oj.after, Region.binds md e = true → e.on ≠ i := fun e he hb heq => by
        have h1 := hall e he hb
        rw [heq, hun1] at h1
        cases h1
      have hw0 : waitsT md ops ops.size j i = false := by
        cases hh : waitsT md ops ops.size j i with
        | false => rfl
        | true =>
          have := waits_listed hc _ j i hio (fun y _ hw => ready_waits hj y hw) hh
          rw [hun1] at this
          cases this
      have h2 := wpOpIn_putS hro hoj (hfree j oj hoj hji hjun hnot) (fun cs b => hsel i oi cs b hi) (fun cs b => hsel j oj cs b hoj) hQ hy h1
      have hfree' : ∀ k ok, ops[k]? = some ok → k ≠ i → (listed.setIfInBounds j true).getD k true = false →
          (∀ e ∈ ok.after, Region.binds md e = true → e.on ≠ i) → oi.apart ops ok = true := fun k ok hk hki hun hno => by
        refine hfree k ok hk hki ?_ hno
        by_cases hjk : j = k
        · subst hjk; exact hjun
        · rw [getD_set_ne true hjk] at hun; exact hun
      refine wpOpIn_mono (fun a2 w2 h3 => ⟨h3.2.1, ih (listed.setIfInBounds j true) a2 w2 hfree' (closed_set hc hj) (ready_mono hr (Ne.symm hji)) h3.1 ?_ ?_⟩) h2
      · cases hTj : T j with
        | true => rw [h3.2.1.1 hTj]; exact hS
        | false => exact h3.2.1.2 hTj i hio hT hw0
      · rw [Array.setIfInBounds_comm _ _ hji]
        exact h3.2.2

variable {T : Nat → Bool} {k : Nat} {listed : Array Bool} {a : Act} {w w2 : World} {i : Nat} {rs : List Nat}
theorem AnyG.take (i : Nat) (d : Option Tmp) (opr : Op) (v : Value) (hro : F.round = none) (ho : (ops[i]?).map (fun o => (o.dst, o.op, o.guard)) = some (d, opr, none)) (hnc : ∀ c, opr ≠ .call c) (hs : Region.noSelect ops = true) (hf : Region.free md ops listed i = true) (hr : (Region.ready md ops listed).contains i = true)
    (hc : closedB md ops listed = true) (hT : T i = true) (hQ : ∀ c a w, Q (.panic c) (a.put d v) w → Q (.panic c) a w)
    (hy : ∀ (o : Oper), o.op = opr → ∀ w, S i w → (execOp a.eval o).run P w = .ok (.value v) w) (hS : S i w)
    (h : AnyG F n P md ops Q T S k (listed.setIfInBounds i true) (a.put d v) w) : AnyG F n P md ops Q T S (k + 1) listed a w := by
  cases hq : ops[i]? with
  | none => simp [hq] at ho
  | some o =>
    simp [hq] at ho
    obtain ⟨rfl, rfl, hg⟩ := ho
    refine AnyG.first hro hq hT (Region.noSelect_spec hs) hQ k listed a w (Region.free_spec hq hf) (closed_of hc) (by simpa using hr) ⟨⟨by simp [Region.wanted, hg], hy o rfl⟩, fun w => ?_⟩ hS h
    unfold Oper.about
    cases ho : o.op <;> first | rfl | exact absurd ho (hnc _)
/-- Each of these comes up next. -/
def ReadyG (F : Fence) (n : Nat) (P : Program) (md : Region.Mode) (ops : Array Oper) (Q : Exit → Act → World → Prop) (T : Nat → Bool) (S : Nat → World → Prop) (k : Nat) (listed : Array Bool) (a : Act) (w : World) (rs : List Nat) : Prop :=
  ∀ j ∈ rs, wpOpIn F n P ops Q j (fun a2 w2 => ((T j = true → w2 = w) ∧ (T j = false → ∀ i, i < ops.size → T i = true → waitsT md ops ops.size j i = false → S i w2)) ∧ AnyG F n P md ops Q T S k (listed.setIfInBounds j true) a2 w2) a w
theorem AnyG.ready (hr : Region.ready md ops listed = rs) (hne : rs ≠ []) (h : ReadyG F n P md ops Q T S k listed a w rs) : AnyG F n P md ops Q T S (k + 1) listed a w :=
  ⟨fun h0 => absurd (hr ▸ h0) hne, hr ▸ h⟩
theorem AnyG.done (hr : Region.ready md ops listed = []) (h : Q .normal a w) : ∀ k, AnyG F n P md ops Q T S k listed a w
  | 0 => ⟨hr, h⟩
  | _ + 1 => ⟨fun _ => h, by rw [hr]; simp⟩
theorem ReadyG.nil : ReadyG F n P md ops Q T S k listed a w [] := fun _ h => by cases h
theorem ReadyG.cons {o : Oper} (ho : ops[i]? = some o) (hg : o.guard = none)
    (h : ∀ K : Act → World → Prop, (∀ a2 w2, ((T i = true → w2 = w) ∧ (T i = false → ∀ x, x < ops.size → T x = true → waitsT md ops ops.size i x = false → S x w2)) ∧ AnyG F n P md ops Q T S k (listed.setIfInBounds i true) a2 w2 → K a2 w2) → Oper.wpIn F n P o a w K Q) (hs : ReadyG F n P md ops Q T S k listed a w rs) : ReadyG F n P md ops Q T S k listed a w (i :: rs) := fun j hj => by
  rcases List.mem_cons.1 hj with rfl | hj
  · refine wpOpIn_step ho (fun K hK => ?_)
    rw [if_pos (by simp [Region.wanted, hg])]
    exact h K hK
  · exact hs j hj
theorem about_plain {o : Oper} (hnc : ∀ c, o.op ≠ .call c) : o.about P w a.eval = none := by
  unfold Oper.about
  cases ho : o.op <;> first | rfl | exact absurd ho (hnc _)
theorem ReadyG.op (d : Option Tmp) (opr : Op) (ho : (ops[i]?).map (fun o => (o.dst, o.op, o.guard)) = some (d, opr, none)) (hro : F.round = none) (hnc : ∀ c, opr ≠ .call c) (v : Value)
    (hrun : ∀ o : Oper, o.op = opr → (execOp a.eval o).run P w = .ok (.value v) w2) (hTi : T i = false) (hk : ∀ x, x < ops.size → T x = true → waitsT md ops ops.size i x = false → S x w2) (h : AnyG F n P md ops Q T S k (listed.setIfInBounds i true) (a.put d v) w2)
    (hs : ReadyG F n P md ops Q T S k listed a w rs) : ReadyG F n P md ops Q T S k listed a w (i :: rs) := by
  cases hq : ops[i]? with
  | none => simp [hq] at ho
  | some o =>
    simp [hq] at ho
    obtain ⟨rfl, rfl, hg⟩ := ho
    refine ReadyG.cons hq hg (fun K hK => ⟨fun f hf => (by rw [about_plain hnc] at hf; cases hf), ?_⟩) hs
    rw [hro, Oper.semAt_none, hrun o rfl]
    exact hK _ _ ⟨⟨fun e => (by rw [hTi] at e; cases e), fun _ => hk⟩, h⟩
theorem ReadyG.skip (opr : Op) (ho : (ops[i]?).map (fun o => (o.dst, o.op, o.guard)) = some (none, opr, none)) (hro : F.round = none) (hnc : ∀ c, opr ≠ .call c)
    (hrun : ∀ o : Oper, o.op = opr → (execOp a.eval o).run P w = .ok .skip w2) (hTi : T i = false) (hk : ∀ x, x < ops.size → T x = true → waitsT md ops ops.size i x = false → S x w2) (h : AnyG F n P md ops Q T S k (listed.setIfInBounds i true) a w2)
    (hs : ReadyG F n P md ops Q T S k listed a w rs) : ReadyG F n P md ops Q T S k listed a w (i :: rs) := by
  cases hq : ops[i]? with
  | none => simp [hq] at ho
  | some o =>
    simp [hq] at ho
    obtain ⟨hd, rfl, hg⟩ := ho
    refine ReadyG.cons hq hg (fun K hK => ⟨fun f hf => (by rw [about_plain hnc] at hf; cases hf), ?_⟩) hs
    rw [hro, Oper.semAt_none, hrun o rfl]
    have e : a.put o.dst undef = a := by rw [hd]; rfl
    have h2 : K a w2 := hK _ _ ⟨⟨fun e => (by rw [hTi] at e; cases e), fun _ => hk⟩, h⟩
    rw [← e] at h2
    exact h2
/-- A call of yield. -/
theorem ReadyG.yield (d : Option Tmp) (f : Operand) (args : Array Operand) (tys : Array TypeId) (ho : (ops[i]?).map (fun o => (o.dst, o.op, o.guard)) = some (d, .call { callee := .value f, args := args, argTypes := tys }, none))
    (hro : F.round = none) (hd : F.depth = none) (l : Nat) (hf : a.eval f = .func (.yield l) #[] #[]) (avs : Array Value) (has : args.map a.eval = avs) (R : Ending → World → Prop) {m : Nat} (hy : YieldAt F m P l avs w R)
    (hTi : T i = false)
    (hK : ∀ v w2, R (.returned v) w2 → (∀ x, x < ops.size → T x = true → waitsT md ops ops.size i x = false → S x w2) ∧ AnyG F n P md ops Q T S k (listed.setIfInBounds i true) (a.put d v) w2) (hnp : ∀ c w2, ¬ R (.panicked c) w2) (hno : ∀ w2, ¬ R .outgrown w2)
    (hs : ReadyG F n P md ops Q T S k listed a w rs) : ReadyG F n P md ops Q T S k listed a w (i :: rs) := by
  cases hq : ops[i]? with
  | none => simp [hq] at ho
  | some o =>
    simp [hq] at ho
    obtain ⟨rfl, hop, hg⟩ := ho
    refine ReadyG.cons hq hg (fun K hK2 => ?_) hs
    obtain ⟨fn, tmps, assign, body, hrun, hR⟩ := anyDepthY hd (n - 1) hy
    have hres : (resolve a.eval { callee := .value f, args := args, argTypes := tys } o.type).run P w = .ok { target := .fn (.yield l) #[], args := avs } w := by
      simp [resolve, hf, has, Deferred.ofValue]
    refine ⟨fun f' hf' => ?_, ?_⟩
    · unfold Oper.about at hf'
      simp only [hop, hres] at hf'
      simp [Target.leads] at hf'
    · rw [hro, Oper.semAt_none]
      have hx : (execOp a.eval o).run P w = .ok (.round l fn tmps assign body) w := by
        unfold execOp
        simp only [hop, Sem.run_bind, hres, Result.andThen_ok, invoke]
        exact hrun
      rw [hx, Oper.uponIn_round]
      refine ⟨fun h => (by rw [hd] at h; cases h), hR.mono ?_⟩
      intro e w' hr
      cases e with
      | returned v => exact hK2 _ _ ⟨⟨fun e => (by rw [hTi] at e; cases e), fun _ => (hK v w' hr).1⟩, (hK v w' hr).2⟩
      | panicked c => exact (hnp c w' hr).elim
      | outgrown => exact (hno w' hr).elim
/-- A call of a function. -/
theorem ReadyG.call (d : Option Tmp) (g : FuncId) (args : Array Operand) (tys : Array TypeId) (ho : (ops[i]?).map (fun o => (o.dst, o.op, o.guard)) = some (d, .call { callee := .value (.func g), args := args, argTypes := tys }, none))
    (hro : F.round = none) (hd : F.depth = none) (hfn : ∀ f, F.fn f) (avs : Array Value) (has : args.map a.eval = avs) (eg : ∀ args w, (callFunc g args).run P w = .ok (.enter g args) w) (R : Ending → World → Prop) (hcl : CallsIn F (n - 1) P g avs w R)
    (hTi : T i = false)
    (hK : ∀ v w2, R (.returned v) w2 → (∀ x, x < ops.size → T x = true → waitsT md ops ops.size i x = false → S x w2) ∧ AnyG F n P md ops Q T S k (listed.setIfInBounds i true) (a.put d v) w2) (hnp : ∀ c w2, ¬ R (.panicked c) w2) (hno : ∀ w2, ¬ R .outgrown w2)
    (hs : ReadyG F n P md ops Q T S k listed a w rs) : ReadyG F n P md ops Q T S k listed a w (i :: rs) := by
  cases hq : ops[i]? with
  | none => simp [hq] at ho
  | some o =>
    simp [hq] at ho
    obtain ⟨rfl, hop, hg⟩ := ho
    refine ReadyG.cons hq hg (fun K hK2 => ⟨fun f _ => hfn f, ?_⟩) hs
    have hev : a.eval (.func g) = .func (.func g) #[] #[] := rfl
    have hres : (resolve a.eval { callee := .value (.func g), args := args, argTypes := tys } o.type).run P w = .ok { target := .fn (.func g) #[], args := avs } w := by
      simp [resolve, hev, has, Deferred.ofValue]
    have hx : (execOp a.eval o).run P w = .ok (.enter g avs) w := by
      unfold execOp
      simp only [hop, Sem.run_bind, hres, Result.andThen_ok, invoke]
      simp [eg]
    rw [hro, Oper.semAt_none, hx, Oper.uponIn_enter]
    refine ⟨fun h => (by rw [hd] at h; cases h), hcl.mono ?_⟩
    intro e w' hr
    cases e with
    | returned v => exact hK2 _ _ ⟨⟨fun e => (by rw [hTi] at e; cases e), fun _ => (hK v w' hr).1⟩, (hK v w' hr).2⟩
    | panicked c => exact (hnp c w' hr).elim
    | outgrown => exact (hno w' hr).elim

/-- A call that is answered here and now. -/
theorem ReadyG.outer (d : Option Tmp) (g : FuncId) (args : Array Operand) (tys : Array TypeId) (ho : (ops[i]?).map (fun o => (o.dst, o.op, o.guard)) = some (d, .call { callee := .value (.func g), args := args, argTypes := tys }, none))
    (hro : F.round = none) (hfn : ∀ f, F.fn f) (avs : Array Value) (has : args.map a.eval = avs) (v : Value) (eg : (callFunc g avs).run P w = .ok (.value v) w)
    (hTi : T i = false) (hk : ∀ x, x < ops.size → T x = true → waitsT md ops ops.size i x = false → S x w) (h : AnyG F n P md ops Q T S k (listed.setIfInBounds i true) (a.put d v) w)
    (hs : ReadyG F n P md ops Q T S k listed a w rs) : ReadyG F n P md ops Q T S k listed a w (i :: rs) := by
  cases hq : ops[i]? with
  | none => simp [hq] at ho
  | some o =>
    simp [hq] at ho
    obtain ⟨rfl, hop, hg⟩ := ho
    refine ReadyG.cons hq hg (fun K hK2 => ⟨fun f _ => hfn f, ?_⟩) hs
    have hev : a.eval (.func g) = .func (.func g) #[] #[] := rfl
    have hres : (resolve a.eval { callee := .value (.func g), args := args, argTypes := tys } o.type).run P w = .ok { target := .fn (.func g) #[], args := avs } w := by
      simp [resolve, hev, has, Deferred.ofValue]
    have hx : (execOp a.eval o).run P w = .ok (.value v) w := by
      unfold execOp
      simp only [hop, Sem.run_bind, hres, Result.andThen_ok, invoke]
      simp [eg]
    rw [hro, Oper.semAt_none, hx]
    exact hK2 _ _ ⟨⟨fun _ => rfl, fun _ => hk⟩, h⟩

variable {o : Oper}
end
end Go.Proofs.YtdajmekliodmcaaGreatDoor.S7
/- A law on a region that draws its order, whose last operation of all writes where others have read: what yields its value in every world that meets a condition may be taken first, and that condition is shown anew behind each operation but the last one. No condition but that each of the others is waited for by the last one. -/
namespace Go.Proofs.YtdajmekliodmcaaGreatDoor.S7
set_option linter.unusedSimpArgs false
open Go.RowKit
set_option linter.unusedVariables false
section
variable {P : Program} {ops : Array Oper} {Q : Exit → Act → World → Prop} {md : Region.Mode} {S : World → Prop} {f : Nat}
/-- Whatever order is picked from here on; S holds behind each operation but number f. -/
def AnyF (P : Program) (md : Region.Mode) (ops : Array Oper) (Q : Exit → Act → World → Prop) (S : World → Prop) (f : Nat) : Nat → Array Bool → Act → World → Prop
  | 0, listed, a, w => Region.ready md ops listed = [] ∧ Q .normal a w
  | n + 1, listed, a, w => (Region.ready md ops listed = [] → Q .normal a w) ∧
    ∀ i ∈ Region.ready md ops listed, wpOp P ops Q i (fun a' w' => (i ≠ f → S w' ∧ AnyF P md ops Q S f n (listed.setIfInBounds i true) a' w') ∧ (i = f → wpAny P md ops Q n (listed.setIfInBounds i true) a' w')) a w
theorem any_of_F : ∀ (n : Nat) (listed : Array Bool) (a : Act) (w : World), AnyF P md ops Q S f n listed a w → wpAny P md ops Q n listed a w
  | 0, _, _, _, h => h
  | n + 1, _, _, _, h => ⟨h.1, fun i hi => wpOp_mono (fun a' w' h' => (by by_cases e : i = f; exact h'.2 e; exact any_of_F n _ a' w' (h'.1 e).2)) (h.2 i hi)⟩
theorem AnyF.first {i : Nat} {oi : Oper} {v : Value} (hi : ops[i]? = some oi) (hsel : ∀ (j : Nat) (o : Oper) cs b, ops[j]? = some o → o.op ≠ .select cs b)
    (hQ : ∀ c a w, Q (.panic c) (a.put oi.dst v) w → Q (.panic c) a w) (hif : i ≠ f) (hw : ∀ o, ops[f]? = some o → ∃ e ∈ o.after, Region.binds md e = true ∧ e.on = i) :
    ∀ (n : Nat) (listed : Array Bool) (a : Act) (w : World),
      (∀ j oj, ops[j]? = some oj → j ≠ i → listed.getD j true = false → (∀ e ∈ oj.after, Region.binds md e = true → e.on ≠ i) → oi.apart ops oj = true) →
      i ∈ Region.ready md ops listed → YieldsIf P ops S oi v a → S w → AnyF P md ops Q S f n (listed.setIfInBounds i true) (a.put oi.dst v) w → AnyF P md ops Q S f (n + 1) listed a w := by
  intro n
  induction n with
  | zero =>
    intro listed a w _ hr hy hS H
    refine ⟨fun h => (by rw [h] at hr; cases hr), fun j hj => ?_⟩
    by_cases hji : j = i
    · subst hji; exact hy.wpOp hi hS ⟨fun _ => ⟨hS, H⟩, fun e => absurd e hif⟩
    · have := ready_mono hj hji
      rw [H.1] at this
      cases this
  | succ n ih =>
    intro listed a w hfree hr hy hS H
    refine ⟨fun h => (by rw [h] at hr; cases hr), fun j hj => ?_⟩
    by_cases hji : j = i
    · subst hji; exact hy.wpOp hi hS ⟨fun _ => ⟨hS, H⟩, fun e => absurd e hif⟩
    · have h1 := H.2 j (ready_mono hj hji)
      obtain ⟨hjun, oj, hoj, hall⟩ := mem_ready.1 hj
      have hnot : ∀ e ∈ oj.after, Region.binds md e = true → e.on ≠ i := fun e he hb heq => by
        have h1 := hall e he hb
        have h0 := (mem_ready.1 hr).1
        rw [heq] at h1
        rcases Nat.lt_or_ge i listed.size with h' | h'
        · simp [h'] at h0 h1; rw [h0] at h1; cases h1
        · simp [Array.getElem?_eq_none h'] at h1
      have hjf : j ≠ f := by
        intro e
        subst e
        obtain ⟨e, he, hb, hon⟩ := hw oj hoj
        exact hnot e he hb hon
      have h2 := wpOp_putIf hoj (hfree j oj hoj hji hjun hnot) (fun cs b => hsel i oi cs b hi) (fun cs b => hsel j oj cs b hoj) hQ hy h1
      have hfree' : ∀ k ok, ops[k]? = some ok → k ≠ i → (listed.setIfInBounds j true).getD k true = false →
          (∀ e ∈ ok.after, Region.binds md e = true → e.on ≠ i) → oi.apart ops ok = true := fun k ok hk hki hun hno => by
        refine hfree k ok hk hki ?_ hno
        by_cases hjk : j = k
        · subst hjk; exact hjun
        · rw [getD_set_ne true hjk] at hun; exact hun
      refine wpOp_mono (fun a' w' h3 => ⟨fun _ => ⟨(h3.2.1 hjf).1, ih (listed.setIfInBounds j true) a' w' hfree' (ready_mono hr (Ne.symm hji)) h3.1 (h3.2.1 hjf).1 ?_⟩, fun e => absurd e hjf⟩) h2
      rw [Array.setIfInBounds_comm _ _ hji]
      exact (h3.2.1 hjf).2
variable {n : Nat} {listed : Array Bool} {a : Act} {w w2 : World} {i : Nat} {rs : List Nat}
theorem AnyF.take (i : Nat) (d : Option Tmp) (opr : Op) (v : Value) (ho : (ops[i]?).map (fun o => (o.dst, o.op, o.guard)) = some (d, opr, none)) (hs : Region.noSelect ops = true) (hf : Region.free md ops listed i = true) (hr : (Region.ready md ops listed).contains i = true)
    (hQ : ∀ c a w, Q (.panic c) (a.put d v) w → Q (.panic c) a w) (hif : (i == f) = false) (hwt : Region.waitsFor md ops f i = true) (hy : ∀ (o : Oper), o.op = opr → ∀ w, S w → (execOp a.eval o).run P w = .ok (.value v) w) (hS : S w)
    (h : AnyF P md ops Q S f n (listed.setIfInBounds i true) (a.put d v) w) : AnyF P md ops Q S f (n + 1) listed a w := by
  cases hq : ops[i]? with
  | none => simp [hq] at ho
  | some o =>
    simp [hq] at ho
    obtain ⟨rfl, rfl, hg⟩ := ho
    refine AnyF.first hq (Region.noSelect_spec hs) hQ (by simpa using hif) ?_ n listed a w (Region.free_spec hq hf) (by simpa using hr) (Or.inl ⟨by simp [Region.wanted, hg], hy o rfl⟩) hS h
    intro o2 ho2
    obtain ⟨oj, h1, e, h2, h3, h4⟩ := Region.waitsFor_spec hwt
    rw [ho2] at h1
    cases h1
    exact ⟨e, h2, h3, h4⟩
/-- Each of these comes up next. -/
def ReadyF (P : Program) (md : Region.Mode) (ops : Array Oper) (Q : Exit → Act → World → Prop) (S : World → Prop) (f n : Nat) (listed : Array Bool) (a : Act) (w : World) (rs : List Nat) : Prop :=
  ∀ i ∈ rs, wpOp P ops Q i (fun a' w' => (i ≠ f → S w' ∧ AnyF P md ops Q S f n (listed.setIfInBounds i true) a' w') ∧ (i = f → wpAny P md ops Q n (listed.setIfInBounds i true) a' w')) a w
theorem AnyF.ready (hr : Region.ready md ops listed = rs) (hne : rs ≠ []) (h : ReadyF P md ops Q S f n listed a w rs) : AnyF P md ops Q S f (n + 1) listed a w :=
  ⟨fun h0 => absurd (hr ▸ h0) hne, hr ▸ h⟩
theorem AnyF.done (hr : Region.ready md ops listed = []) (h : Q .normal a w) : ∀ n, AnyF P md ops Q S f n listed a w
  | 0 => ⟨hr, h⟩
  | _ + 1 => ⟨fun _ => h, by rw [hr]; simp⟩
theorem any_doneF (hr : Region.ready md ops listed = []) (h : Q .normal a w) (n : Nat) : wpAny P md ops Q n listed a w := any_of_F (S := fun _ => True) (f := 0) _ _ _ _ (AnyF.done hr h n)
theorem ReadyF.nil : ReadyF P md ops Q S f n listed a w [] := fun _ h => by cases h
theorem ReadyF.cons {o : Oper} (ho : ops[i]? = some o) (hg : o.guard = none)
    (h : ∀ K : Act → World → Prop, (∀ a' w', (i ≠ f → S w' ∧ AnyF P md ops Q S f n (listed.setIfInBounds i true) a' w') ∧ (i = f → wpAny P md ops Q n (listed.setIfInBounds i true) a' w') → K a' w') → Oper.wp P o a w K Q) (hs : ReadyF P md ops Q S f n listed a w rs) : ReadyF P md ops Q S f n listed a w (i :: rs) := fun j hj => by
  rcases List.mem_cons.1 hj with rfl | hj
  · refine wpOp_step ho (fun K hK => ?_)
    rw [if_pos (by simp [Region.wanted, hg])]
    exact h K hK
  · exact hs j hj
theorem ReadyF.op (d : Option Tmp) (opr : Op) (ho : (ops[i]?).map (fun o => (o.dst, o.op, o.guard)) = some (d, opr, none)) (v : Value)
    (hrun : ∀ o : Oper, o.op = opr → (execOp a.eval o).run P w = .ok (.value v) w2) (hS : S w2) (h : AnyF P md ops Q S f n (listed.setIfInBounds i true) (a.put d v) w2)
    (hs : ReadyF P md ops Q S f n listed a w rs) (hif : i ≠ f := by decide) : ReadyF P md ops Q S f n listed a w (i :: rs) := by
  cases hq : ops[i]? with
  | none => simp [hq] at ho
  | some o =>
    simp [hq] at ho
    obtain ⟨rfl, rfl, hg⟩ := ho
    exact ReadyF.cons hq hg (fun K hK => by unfold Oper.wp; rw [hrun o rfl]; exact hK _ _ ⟨fun _ => ⟨hS, h⟩, fun e => absurd e hif⟩) hs
theorem ReadyF.last (opr : Op) (ho : (ops[f]?).map (fun o => (o.dst, o.op, o.guard)) = some (none, opr, none))
    (hrun : ∀ o : Oper, o.op = opr → (execOp a.eval o).run P w = .ok .skip w2) (h : wpAny P md ops Q n (listed.setIfInBounds f true) a w2)
    (hs : ReadyF P md ops Q S f n listed a w rs) : ReadyF P md ops Q S f n listed a w (f :: rs) := by
  cases hq : ops[f]? with
  | none => simp [hq] at ho
  | some o =>
    simp [hq] at ho
    obtain ⟨hd, rfl, hg⟩ := ho
    refine ReadyF.cons hq hg (fun K hK => ?_) hs
    unfold Oper.wp
    rw [hrun o rfl]
    have : a.put o.dst undef = a := by rw [hd]; rfl
    have h2 : K a w2 := hK _ _ ⟨fun e => absurd rfl e, fun _ => h⟩
    rw [← this] at h2
    exact h2
theorem ReadyF.call (d : Option Tmp) (g : FuncId) (args : Array Operand) (tys : Array TypeId) (ho : (ops[i]?).map (fun o => (o.dst, o.op, o.guard)) = some (d, .call { callee := .value (.func g), args := args, argTypes := tys }, none))
    (avs : Array Value) (has : args.map a.eval = avs) (eg : ∀ args w, (callFunc g args).run P w = .ok (.enter g args) w) (R : Ending → World → Prop) (hc : Calls P g avs w R)
    (hK : ∀ v w', R (.returned v) w' → S w' ∧ AnyF P md ops Q S f n (listed.setIfInBounds i true) (a.put d v) w') (hnp : ∀ c w', ¬ R (.panicked c) w') (hno : ∀ w', ¬ R .outgrown w')
    (hs : ReadyF P md ops Q S f n listed a w rs) (hif : i ≠ f := by decide) : ReadyF P md ops Q S f n listed a w (i :: rs) := by
  cases hq : ops[i]? with
  | none => simp [hq] at ho
  | some o =>
    simp [hq] at ho
    obtain ⟨rfl, hop, hg⟩ := ho
    refine ReadyF.cons hq hg (fun K hK2 => ?_) hs
    have hev : a.eval (.func g) = .func (.func g) #[] #[] := rfl
    have hres : (resolve a.eval { callee := .value (.func g), args := args, argTypes := tys } o.type).run P w = .ok { target := .fn (.func g) #[], args := avs } w := by
      simp [resolve, hev, has, Deferred.ofValue]
    have hx : (execOp a.eval o).run P w = .ok (.enter g avs) w := by
      unfold execOp
      simp only [hop, Sem.run_bind, hres, Result.andThen_ok, invoke]
      simp [eg]
    unfold Oper.wp
    rw [hx]
    refine hc.mono ?_
    intro e w' hr
    cases e with
    | returned v => exact hK2 _ _ ⟨fun _ => hK v w' hr, fun e => absurd e hif⟩
    | panicked c => exact (hnp c w' hr).elim
    | outgrown => exact (hno w' hr).elim
end
end Go.Proofs.YtdajmekliodmcaaGreatDoor.S7
/- Small laws for the walks over numbers of four words. No condition but what each names. -/
namespace Go.Proofs.YtdajmekliodmcaaGreatDoor.S7
set_option linter.unusedSimpArgs false
open Go.RowKit Go.Shelf
set_option linter.unusedVariables false
attribute [local go_sem] Oper.semAt_some
theorem below_own {B b : Nat} {w W W' : World} {row : Option Nat} (h : Below b w W) (hB : b ≤ B) (hb : b ≤ W.heap.size) (hg : W.grownBy W' row) (hr : ∀ r, row = some r → B ≤ r ∧ ∃ o : Obj, W.heap[r]? = some o ∧ o.isCells = false) : Below b w W' :=
  h.grown hg hb (fun k e => by have := (hr k e).1; omega)
theorem exec_indexAddr24 {ρ : Operand → Value} {o : Oper} (x y : Operand) (ho : o.op = .indexAddr 36 x y) (b i : Nat) (hx : ρ x = .pointer (some ⟨b, 0, none⟩)) (hy : ρ y = .int .i64 (i : Int)) (hi : i < 4) (w : World) :
    (execOp ρ o).run Tryz.prog w = .ok (.value (.pointer (some ⟨b, i, none⟩))) w := by
  unfold execOp
  rw [ho]
  simp only [hx, hy]
  have h1 : (i : Int) < 4 := by omega
  go_simp
theorem keeps_of_below {W W2 : World} (h : Below W.heap.size W W2) : KeepsOthers W W2 :=
  ⟨h.size, fun k o hk _ => (h.block k (Array.getElem?_eq_some_iff.1 hk).1).trans hk⟩
theorem keeps_setRow {W : World} {g : Nat} {cs cur : Array Value} {t : TypeId} {fr : Nat × Nat} (hg : W.heap[g]? = some (.cells cur t fr)) : KeepsOthers W (W.setRow g cs) :=
  KeepsOthers.of_grownBy (row := some g) ⟨rfl, rfl, rfl, by simp, fun k _ hk => setRow_other _ _ _ _ (fun e => hk (by rw [e]))⟩ (fun j o e ho => by cases e; rw [hg] at ho; cases ho; rfl)
theorem dig_zero (j : Nat) : dig 0 j = 0 := by unfold dig; split <;> rfl
theorem num_zero : (rowOf .u64 4 fun _ => 0).toArray = num 0 := by unfold num; rw [rowOf_ext (fun j _ => (dig_zero j).symm)]
theorem exec_new24 {ρ : Operand → Value} {o : Oper} (w : World) (x y : Operand) (ho : o.op = .store 36 x y) (c : Array Value) (t : TypeId) (hx : ρ x = .pointer (some ⟨w.heap.size, 0, none⟩)) (A : Array Value) (hA : IsNum A) (hy : ρ y = .agg A) (h4 : c.size = 4) :
    (execOp ρ o).run Tryz.prog (w.alloc (.cells c t)) = .ok .skip (w.alloc (.cells A t)) := by
  have h := exec_store24 (w.alloc (.cells c t)) x y ho w.heap.size hx A hA hy c t (heap_alloc_new _ _) h4
  rw [setRow_alloc _ _ _ _ _ _ rfl] at h
  exact h
theorem num_lit (N : Nat) : num N = #[.int .u64 (dig N 0 : Int), .int .u64 (dig N 1 : Int), .int .u64 (dig N 2 : Int), .int .u64 (dig N 3 : Int)] := rfl
end Go.Proofs.YtdajmekliodmcaaGreatDoor.S7
/- Which numbers lie where: what a walk over blocks of four words knows; and operations under guards in a region that draws its order. No condition. -/
namespace Go.Proofs.YtdajmekliodmcaaGreatDoor.S7
open Go.RowKit Go.Shelf
set_option linter.unusedVariables false
set_option linter.unusedSimpArgs false
section
variable {P : Program} {ops : Array Oper} {Q : Exit → Act → World → Prop} {md : Region.Mode} {S : World → Prop} {f n : Nat} {listed : Array Bool} {a : Act} {w w2 : World} {rs : List Nat}
end

/-- Since w0 nothing that lay has turned; these blocks hold these rows. -/
def Kn (w0 : World) (l : List (Nat × Array Value)) (w : World) : Prop := Below w0.heap.size w0 w ∧ ∀ p ∈ l, w.heap[p.1]? = some (.cells p.2 36 (0, 0))
theorem Kn.get {w0 w : World} {l : List (Nat × Array Value)} (h : Kn w0 l w) (g : Nat) (A : Array Value) (hm : (g, A) ∈ l) : w.heap[g]? = some (.cells A 36 (0, 0)) := h.2 (g, A) hm
theorem Kn.lt {w0 w : World} {l : List (Nat × Array Value)} (h : Kn w0 l w) (g : Nat) (A : Array Value) (hm : (g, A) ∈ l) : g < w.heap.size := (Array.getElem?_eq_some_iff.1 (h.get g A hm)).1
theorem Kn.below {w0 w w2 : World} {l : List (Nat × Array Value)} (h : Kn w0 l w) (hb : Below w.heap.size w w2) : Kn w0 l w2 :=
  ⟨h.1.trans (hb.mono h.1.size), fun p hp => (hb.block p.1 (Array.getElem?_eq_some_iff.1 (h.2 p hp)).1).trans (h.2 p hp)⟩
theorem Kn.drew {w0 w : World} {l : List (Nat × Array Value)} (h : Kn w0 l w) : Kn w0 l w.drew := ⟨h.1.drew, h.2⟩
theorem Kn.alloc {w0 w : World} {l : List (Nat × Array Value)} (h : Kn w0 l w) (o : Obj) : Kn w0 l (w.alloc o) := h.below ((Below.refl _ w).alloc (Nat.le_refl _) o)
theorem Kn.new {w0 w : World} {l : List (Nat × Array Value)} (h : Kn w0 l w) (A : Array Value) : Kn w0 ((w.heap.size, A) :: l) (w.alloc (.cells A 36)) :=
  ⟨(h.alloc _).1, fun p hp => by
    rcases List.mem_cons.1 hp with rfl | hp
    · exact heap_alloc_new w _
    · exact (h.alloc _).2 p hp⟩
theorem Kn.nil (w : World) : Kn w [] w := ⟨Below.refl _ _, fun p hp => by cases hp⟩
theorem Kn.sub {w0 w : World} {l m : List (Nat × Array Value)} (h : Kn w0 l w) (hs : ∀ p ∈ m, p ∈ l) : Kn w0 m w := ⟨h.1, fun p hp => h.2 p (hs p hp)⟩
theorem Kn.add {w0 w : World} {l : List (Nat × Array Value)} (h : Kn w0 l w) (g : Nat) (A : Array Value) (hg : w.heap[g]? = some (.cells A 36 (0, 0))) : Kn w0 ((g, A) :: l) w :=
  ⟨h.1, fun p hp => by
    rcases List.mem_cons.1 hp with rfl | hp
    · exact hg
    · exact h.2 p hp⟩
/-- A store into one of them. -/
theorem Kn.set {w0 w : World} {l m : List (Nat × Array Value)} (h : Kn w0 l w) (g : Nat) (A B : Array Value) (hg : w.heap[g]? = some (.cells B 36 (0, 0))) (hw : w0.heap.size ≤ g) (hm : ∀ p ∈ m, p = (g, A) ∨ (p ∈ l ∧ p.1 ≠ g)) : Kn w0 m (w.setRow g A) :=
  ⟨h.1.trans ⟨rfl, rfl, rfl, by simp, fun k hk => setRow_other _ _ _ _ (by omega)⟩, fun p hp => by
    rcases hm p hp with rfl | ⟨h1, h2⟩
    · exact setRow_heap _ _ _ _ _ _ hg
    · exact (setRow_other _ _ _ _ h2).trans (h.2 p h1)⟩
theorem Kn.load {w0 w : World} {l : List (Nat × Array Value)} (h : Kn w0 l w) (g : Nat) (A : Array Value) (hm : (g, A) ∈ l) (hA : IsNum A) : (loadVar 36 ⟨g, 0, none⟩).run Tryz.prog w = .ok (.agg A) w := loadA hA (h.get g A hm)
theorem Kn.cell {w0 w : World} {l : List (Nat × Array Value)} (h : Kn w0 l w) (g : Nat) (A : Array Value) (hm : (g, A) ∈ l) (j : Nat) : w.cell? ⟨g, j, none⟩ = A[j]? := cell_of_row w g j A 36 (0, 0) (h.get g A hm)
theorem IsNum.size {A : Array Value} (h : IsNum A) : A.size = 4 := by obtain ⟨f, rfl⟩ := h; exact rowOf_size _ _ _
theorem num_get (N j : Nat) (hj : j < 4) : (num N)[j]? = some (.int .u64 (dig N j : Int)) := by
  unfold num
  rw [List.getElem?_toArray, rowOf_get _ _ _ _ hj]
theorem exec_store_kn {ρ : Operand → Value} {o : Oper} {w0 : World} (w : World) {l : List (Nat × Array Value)} (h : Kn w0 l w) (x y : Operand) (ho : o.op = .store 36 x y) (g : Nat) (hx : ρ x = .pointer (some ⟨g, 0, none⟩)) (A : Array Value) (hA : IsNum A) (hy : ρ y = .agg A)
    (B : Array Value) (hB : IsNum B) (hm : (g, B) ∈ l) : (execOp ρ o).run Tryz.prog w = .ok .skip (w.setRow g A) :=
  exec_store24 w x y ho g hx A hA hy B 36 (h.get g B hm) hB.size
theorem zero_run (w : World) : (zeroValue 36).run Tryz.prog w = .ok (.agg (num 0)) w := by rw [← num_zero]; exact zero24 w
theorem build_lit (n : Nat) (w : World) : (Instr.build 36 #[(0, .int .u64 (n : Int))]).run Tryz.prog w = .ok (.agg #[.int .u64 (n : Int), .int .u64 0, .int .u64 0, .int .u64 0]) w := by kernel_rfl
theorem build_run (n : Nat) (hn : n < 18446744073709551616) (w : World) : (Instr.build 36 #[(0, .int .u64 (n : Int))]).run Tryz.prog w = .ok (.agg (num n)) w := by
  have h : num n = #[.int .u64 (n : Int), .int .u64 0, .int .u64 0, .int .u64 0] := by
    rw [num_lit, dig_0, dig_1, dig_2, dig_3, Nat.mod_eq_of_lt hn, Nat.div_eq_of_lt hn, Nat.div_eq_of_lt (by omega), Nat.div_eq_of_lt (by omega)]
    rfl
  rw [h]
  exact build_lit n w
theorem build0_run (w : World) : (Instr.build 36 #[]).run Tryz.prog w = .ok (.agg (num 0)) w := by kernel_rfl
end Go.Proofs.YtdajmekliodmcaaGreatDoor.S7
