/- Several texts, one behind the other; each says by itself what it proves, and on what conditions. -/
import Derived.Test.YtdbbcngolcnniaaDoorX12
import Derived.OrdersHeld
import Derived.Lib.Hide
import Derived.Shelf.Strings.Builder1
import Derived.Shelf.Strings.Builder2
import Derived.Shelf.Small.Strs
import Derived.Shelf.Strings.BuilderF
import Derived.Shelf.Strings.BuilderK
import Derived.Shelf.Strings.Builder2Cap
import Derived.Shelf.LaysM
import Derived.Shelf.Strconv.Clone
import Derived.Shelf.Strings.Search1
import Derived.Shelf.Strings.BuilderCap
import Derived.Test.YtdbbcngolcnniaaDoorProg
/- A region that draws its order, inside a fence: what yields its value in every world that meets a condition of its own may be taken first; that condition is shown anew behind each operation that does not wait for it. With a call of yield as one of its operations. No condition of its own. -/
namespace Go.Proofs.YtdbbcngolcnniaaDoor
set_option linter.unusedSimpArgs false
open Go.RowKit
set_option linter.unusedVariables false

section
variable {F : Fence} {n : Nat} {P : Program} {ops : Array Oper} {Q : Exit → Act → World → Prop} {md : Region.Mode} {S : Nat → World → Prop}

/-- In every world that meets T the operation yields v, does nothing else, and is about to make no call. -/
def YieldsS (P : Program) (ops : Array Oper) (T : World → Prop) (o : Oper) (v : Value) (a : Act) : Prop :=
  (Region.wanted o (yielded ops a.tmps) = true ∧ ∀ w, T w → (execOp a.eval o).run P w = .ok (.value v) w) ∧ ∀ w, o.about P w a.eval = none

theorem YieldsS.wpOpIn {T : World → Prop} {i : Nat} {o : Oper} {v : Value} {a : Act} (hro : F.round = none) (hi : ops[i]? = some o) (hy : YieldsS P ops T o v a)
    {K : Act → World → Prop} {w : World} (hT : T w) (h : K (a.put o.dst v) w) : wpOpIn F n P ops Q i K a w := by
  unfold Go.wpOpIn
  simp only [hi]
  have hab : ∀ f, o.about P w a.eval = some f → F.fn f := fun f hf => by rw [hy.2 w] at hf; cases hf
  obtain ⟨hw, hv⟩ := hy.1
  simp only [hw, if_true, Oper.wpIn, hro, Oper.semAt_none, hv w hT, Oper.uponIn]
  exact ⟨hab, h⟩

theorem YieldsS.of_same {T : World → Prop} {o : Oper} {v : Value} {a a2 : Act} (hy : YieldsS P ops T o v a) (he : execOp a2.eval o = execOp a.eval o)
    (hw : Region.wanted o (yielded ops a2.tmps) = Region.wanted o (yielded ops a.tmps)) (hb : ∀ w, o.about P w a2.eval = o.about P w a.eval) : YieldsS P ops T o v a2 := by
  refine ⟨?_, fun w => by rw [hb w]; exact hy.2 w⟩
  rw [he, hw]
  exact hy.1

theorem wpOpIn_putS {T : World → Prop} {j : Nat} {oi oj : Oper} {v : Value} (hro : F.round = none) (hj : ops[j]? = some oj) (hap : oi.apart ops oj = true)
    (hsi : ∀ cs b, oi.op ≠ .select cs b) (hsj : ∀ cs b, oj.op ≠ .select cs b)
    (hQ : ∀ c a w, Q (.panic c) (a.put oi.dst v) w → Q (.panic c) a w) {K : Act → World → Prop} {a : Act} {w : World}
    (hy : YieldsS P ops T oi v a) (h : wpOpIn F n P ops Q j K (a.put oi.dst v) w) :
    wpOpIn F n P ops Q j (fun a2 w2 => YieldsS P ops T oi v a2 ∧ K (a2.put oi.dst v) w2) a w := by
  obtain ⟨h1, h2, h3⟩ := Oper.apart_spec hap
  have keep : ∀ (a : Act), YieldsS P ops T oi v a → ∀ u, YieldsS P ops T oi v (a.put oj.dst u) := fun a hy u =>
    hy.of_same (execOp_put oi hsi a oj.dst u h3) (wanted_put oi a oj.dst u h3) (fun w => about_put oi w a oj.dst u h3)
  have keepD : ∀ d, YieldsS P ops T oi v { a with defers := d :: a.defers } := fun d => hy.of_same rfl rfl (fun _ => rfl)
  unfold wpOpIn at *
  simp only [hj] at *
  rw [wanted_put oj a oi.dst v h1, about_put oj w a oi.dst v h1] at h
  split
  · rename_i hw
    simp only [hw, if_true] at h
    unfold Oper.wpIn at *
    rw [about_put oj w a oi.dst v h1] at h
    refine ⟨h.1, ?_⟩
    have h := h.2
    rw [hro, Oper.semAt_none, execOp_put oj hsj a oi.dst v h1] at h
    rw [hro, Oper.semAt_none]
    generalize (execOp a.eval oj).run P w = r at *
    cases r with
    | ok x w2 =>
      cases x <;> simp only [Oper.uponIn] at h ⊢
      case value u => exact ⟨keep a hy u, by rw [← Act.put_comm a v u h2]; exact h⟩
      case skip => exact ⟨keep a hy _, by rw [← Act.put_comm a v undef h2]; exact h⟩
      case defer d =>
        refine ⟨keep _ (keepD d) _, ?_⟩
        rw [← Act.put_comm _ v undef h2, ← Act.put_defers]
        exact h
      case enter f args =>
        refine ⟨h.1, CallsIn.mono h.2 fun e w3 he => ?_⟩
        cases e with
        | returned u => exact ⟨keep a hy u, by rw [← Act.put_comm a v u h2]; exact he⟩
        | panicked c => exact hQ _ _ _ he
        | outgrown => exact he
      case row row args => exact ⟨h.1, RowsIn.mono h.2 fun u w3 he => ⟨keep a hy u, by rw [← Act.put_comm a v u h2]; exact he⟩⟩
      case round l f tmps assign body =>
        refine ⟨h.1, RoundIn.mono h.2 fun e w3 he => ?_⟩
        cases e with
        | returned u => exact ⟨keep a hy u, by rw [← Act.put_comm a v u h2]; exact he⟩
        | panicked c => exact hQ _ _ _ he
        | outgrown => exact he
    | halt x w2 =>
      cases x <;> simp only [Oper.uponIn] at h ⊢
      case panic u => exact hQ _ _ _ h
  · rename_i hw
    simp only [hw] at h
    exact ⟨h.1, keep a hy _, by rw [← Act.put_comm a v undef h2]; exact h.2⟩

/-- j waits for i, by whatever many steps up to k. -/
def waitsT (md : Region.Mode) (ops : Array Oper) : Nat → Nat → Nat → Bool
  | 0, _, _ => false
  | k + 1, j, i => Region.waitsFor md ops j i || (List.range ops.size).any fun m => Region.waitsFor md ops j m && waitsT md ops k m i

/-- What one that has come up waits for has come up. -/
def closedB (md : Region.Mode) (ops : Array Oper) (listed : Array Bool) : Bool :=
  (List.range ops.size).all fun x => !(listed.getD x false) || (List.range ops.size).all fun y => !(Region.waitsFor md ops x y) || listed.getD y false
def Closed (md : Region.Mode) (ops : Array Oper) (listed : Array Bool) : Prop :=
  ∀ x y, x < ops.size → y < ops.size → listed.getD x false = true → Region.waitsFor md ops x y = true → listed.getD y false = true
theorem closed_of {listed : Array Bool} (h : closedB md ops listed = true) : Closed md ops listed := by
  intro x y hx hy hl hw
  have h1 := List.all_eq_true.1 h x (List.mem_range.2 hx)
  rw [hl] at h1
  simp only [Bool.not_true, Bool.false_or] at h1
  have h2 := List.all_eq_true.1 h1 y (List.mem_range.2 hy)
  rw [hw] at h2
  simpa using h2
theorem waits_listed {listed : Array Bool} (hc : Closed md ops listed) : ∀ (k j i : Nat), i < ops.size → (∀ y, y < ops.size → Region.waitsFor md ops j y = true → listed.getD y false = true) → waitsT md ops k j i = true → listed.getD i false = true
  | 0, _, _, _, _, h => by cases h
  | k + 1, j, i, hi, hd, h => by
    unfold waitsT at h
    simp only [Bool.or_eq_true, List.any_eq_true, Bool.and_eq_true, List.mem_range] at h
    rcases h with h | ⟨m, hm, h1, h2⟩
    · exact hd i hi h
    · exact waits_listed hc k m i hi (fun y hy hw => hc m y hm hy (hd m hm h1) hw) h2
theorem ready_waits {listed : Array Bool} {j : Nat} (hj : j ∈ Region.ready md ops listed) : ∀ y, Region.waitsFor md ops j y = true → listed.getD y false = true := by
  intro y hw
  obtain ⟨_, oj, hoj, hall⟩ := mem_ready.1 hj
  obtain ⟨o2, h1, e, he, hb, hon⟩ := Region.waitsFor_spec hw
  rw [hoj] at h1
  cases h1
  rw [← hon]
  exact hall e he hb
theorem closed_set {listed : Array Bool} {j : Nat} (hc : Closed md ops listed) (hj : j ∈ Region.ready md ops listed) : Closed md ops (listed.setIfInBounds j true) := by
  have keep : ∀ y, listed.getD y false = true → (listed.setIfInBounds j true).getD y false = true := by
    intro y hy
    by_cases hyj : j = y
    · subst hyj
      have hlt : j < listed.size := by
        rcases Nat.lt_or_ge j listed.size with h | h
        · exact h
        · simp [Array.getElem?_eq_none h] at hy
      simp [hlt]
    · rw [getD_set_ne false hyj]; exact hy
  intro x y hx hy hl hw
  by_cases hxj : j = x
  · subst hxj
    exact keep y (ready_waits hj y hw)
  · rw [getD_set_ne false hxj] at hl
    exact keep y (hc x y hx hy hl hw)

/-- Whatever order is picked from here on. T: those that may be taken first: they turn nothing; behind each other one S i holds for each i of T that it does not wait for. -/
def AnyG (F : Fence) (n : Nat) (P : Program) (md : Region.Mode) (ops : Array Oper) (Q : Exit → Act → World → Prop) (T : Nat → Bool) (S : Nat → World → Prop) : Nat → Array Bool → Act → World → Prop
  | 0, listed, a, w => Region.ready md ops listed = [] ∧ Q .normal a w
  | k + 1, listed, a, w => (Region.ready md ops listed = [] → Q .normal a w) ∧
    ∀ j ∈ Region.ready md ops listed, wpOpIn F n P ops Q j (fun a2 w2 => ((T j = true → w2 = w) ∧ (T j = false → ∀ i, i < ops.size → T i = true → waitsT md ops ops.size j i = false → S i w2)) ∧ AnyG F n P md ops Q T S k (listed.setIfInBounds j true) a2 w2) a w

theorem anyIn_of_G {T : Nat → Bool} : ∀ (k : Nat) (listed : Array Bool) (a : Act) (w : World), AnyG F n P md ops Q T S k listed a w → wpAnyIn F n P md ops Q k listed a w
  | 0, _, _, _, h => h
  | k + 1, _, _, _, h => ⟨h.1, fun i hi => wpOpIn_mono (fun a2 w2 h2 => anyIn_of_G k _ a2 w2 h2.2) (h.2 i hi)⟩

theorem AnyG.first {T : Nat → Bool} {i : Nat} {oi : Oper} {v : Value} (hro : F.round = none) (hi : ops[i]? = some oi) (hT : T i = true) (hsel : ∀ (j : Nat) (o : Oper) cs b, ops[j]? = some o → o.op ≠ .select cs b)
    (hQ : ∀ c a w, Q (.panic c) (a.put oi.dst v) w → Q (.panic c) a w) :
    ∀ (k : Nat) (listed : Array Bool) (a : Act) (w : World),
      (∀ j oj, ops[j]? = some oj → j ≠ i → listed.getD j true = false → (∀ e ∈ oj.after, Region.binds md e = true → e.on ≠ i) → oi.apart ops oj = true) → Closed md ops listed →
      i ∈ Region.ready md ops listed → YieldsS P ops (S i) oi v a → S i w → AnyG F n P md ops Q T S k (listed.setIfInBounds i true) (a.put oi.dst v) w → AnyG F n P md ops Q T S (k + 1) listed a w := by
  have hio : i < ops.size := (Array.getElem?_eq_some_iff.1 hi).1
  intro k
  induction k with
  | zero =>
    intro listed a w _ _ hr hy hS H
    refine ⟨fun h => (by rw [h] at hr; cases hr), fun j hj => ?_⟩
    by_cases hji : j = i
    · subst hji
      exact hy.wpOpIn hro hi hS ⟨⟨fun _ => rfl, fun h => by rw [hT] at h; cases h⟩, H⟩
    · have := ready_mono hj hji
      rw [H.1] at this
      cases this
  | succ k ih =>
    intro listed a w hfree hc hr hy hS H
    refine ⟨fun h => (by rw [h] at hr; cases hr), fun j hj => ?_⟩
    by_cases hji : j = i
    · subst hji
      exact hy.wpOpIn hro hi hS ⟨⟨fun _ => rfl, fun h => by rw [hT] at h; cases h⟩, H⟩
    · have h1 := H.2 j (ready_mono hj hji)
      obtain ⟨hjun, oj, hoj, hall⟩ := mem_ready.1 hj
      have hun0 : listed.getD i true = false := (mem_ready.1 hr).1
      have hun1 : listed.getD i false = false := by
        rcases Nat.lt_or_ge i listed.size with h' | h'
        · simp [h'] at hun0 ⊢; exact hun0
        · simp [Array.getElem?_eq_none h'] at hun0
      have hnot : ∀ e ∈ oj.after, Region.binds md e = true → e.on ≠ i := fun e he hb heq => by
        have h1 := hall e he hb
        rw [heq, hun1] at h1
        cases h1
      have hw0 : waitsT md ops ops.size j i = false := by
        cases hh : waitsT md ops ops.size j i with
        | false => rfl
        | true =>
          have := waits_listed hc _ j i hio (fun y _ hw => ready_waits hj y hw) hh
          rw [hun1] at this
          cases this
      have h2 := wpOpIn_putS hro hoj (hfree j oj hoj hji hjun hnot) (fun cs b => hsel i oi cs b hi) (fun cs b => hsel j oj cs b hoj) hQ hy h1
      have hfree' : ∀ k ok, ops[k]? = some ok → k ≠ i → (listed.setIfInBounds j true).getD k true = false →
          (∀ e ∈ ok.after, Region.binds md e = true → e.on ≠ i) → oi.apart ops ok = true := fun k ok hk hki hun hno => by
        refine hfree k ok hk hki ?_ hno
        by_cases hjk : j = k
        · subst hjk; exact hjun
        · rw [getD_set_ne true hjk] at hun; exact hun
      refine wpOpIn_mono (fun a2 w2 h3 => ⟨h3.2.1, ih (listed.setIfInBounds j true) a2 w2 hfree' (closed_set hc hj) (ready_mono hr (Ne.symm hji)) h3.1 ?_ ?_⟩) h2
      · cases hTj : T j with
        | true => rw [h3.2.1.1 hTj]; exact hS
        | false => exact h3.2.1.2 hTj i hio hT hw0
      · rw [Array.setIfInBounds_comm _ _ hji]
        exact h3.2.2

variable {T : Nat → Bool} {k : Nat} {listed : Array Bool} {a : Act} {w w2 : World} {i : Nat} {rs : List Nat}
theorem AnyG.take (i : Nat) (d : Option Tmp) (opr : Op) (v : Value) (hro : F.round = none) (ho : (ops[i]?).map (fun o => (o.dst, o.op, o.guard)) = some (d, opr, none)) (hnc : ∀ c, opr ≠ .call c) (hs : Region.noSelect ops = true) (hf : Region.free md ops listed i = true) (hr : (Region.ready md ops listed).contains i = true)
    (hc : closedB md ops listed = true) (hT : T i = true) (hQ : ∀ c a w, Q (.panic c) (a.put d v) w → Q (.panic c) a w)
    (hy : ∀ (o : Oper), o.op = opr → ∀ w, S i w → (execOp a.eval o).run P w = .ok (.value v) w) (hS : S i w)
    (h : AnyG F n P md ops Q T S k (listed.setIfInBounds i true) (a.put d v) w) : AnyG F n P md ops Q T S (k + 1) listed a w := by
  cases hq : ops[i]? with
  | none => simp [hq] at ho
  | some o =>
    simp [hq] at ho
    obtain ⟨rfl, rfl, hg⟩ := ho
    refine AnyG.first hro hq hT (Region.noSelect_spec hs) hQ k listed a w (Region.free_spec hq hf) (closed_of hc) (by simpa using hr) ⟨⟨by simp [Region.wanted, hg], hy o rfl⟩, fun w => ?_⟩ hS h
    unfold Oper.about
    cases ho : o.op <;> first | rfl | exact absurd ho (hnc _)
/-- A builtin's call may be taken first, too. -/
theorem AnyG.takeB (i : Nat) (d : Option Tmp) (c : Call) (v : Value) (hro : F.round = none) (ho : (ops[i]?).map (fun o => (o.dst, o.op, o.guard)) = some (d, .call c, none)) (hs : Region.noSelect ops = true) (hf : Region.free md ops listed i = true) (hr : (Region.ready md ops listed).contains i = true)
    (hc : closedB md ops listed = true) (hT : T i = true) (hQ : ∀ c a w, Q (.panic c) (a.put d v) w → Q (.panic c) a w)
    (hab : ∀ (o : Oper), o.op = .call c → ∀ w, o.about P w a.eval = none)
    (hy : ∀ (o : Oper), o.op = .call c → ∀ w, S i w → (execOp a.eval o).run P w = .ok (.value v) w) (hS : S i w)
    (h : AnyG F n P md ops Q T S k (listed.setIfInBounds i true) (a.put d v) w) : AnyG F n P md ops Q T S (k + 1) listed a w := by
  cases hq : ops[i]? with
  | none => simp [hq] at ho
  | some o =>
    simp [hq] at ho
    obtain ⟨rfl, hop, hg⟩ := ho
    exact AnyG.first hro hq hT (Region.noSelect_spec hs) hQ k listed a w (Region.free_spec hq hf) (closed_of hc) (by simpa using hr) ⟨⟨by simp [Region.wanted, hg], hy o hop⟩, hab o hop⟩ hS h

/-- Each of these comes up next. -/
def ReadyG (F : Fence) (n : Nat) (P : Program) (md : Region.Mode) (ops : Array Oper) (Q : Exit → Act → World → Prop) (T : Nat → Bool) (S : Nat → World → Prop) (k : Nat) (listed : Array Bool) (a : Act) (w : World) (rs : List Nat) : Prop :=
  ∀ j ∈ rs, wpOpIn F n P ops Q j (fun a2 w2 => ((T j = true → w2 = w) ∧ (T j = false → ∀ i, i < ops.size → T i = true → waitsT md ops ops.size j i = false → S i w2)) ∧ AnyG F n P md ops Q T S k (listed.setIfInBounds j true) a2 w2) a w
theorem AnyG.ready (hr : Region.ready md ops listed = rs) (hne : rs ≠ []) (h : ReadyG F n P md ops Q T S k listed a w rs) : AnyG F n P md ops Q T S (k + 1) listed a w :=
  ⟨fun h0 => absurd (hr ▸ h0) hne, hr ▸ h⟩
theorem AnyG.done (hr : Region.ready md ops listed = []) (h : Q .normal a w) : ∀ k, AnyG F n P md ops Q T S k listed a w
  | 0 => ⟨hr, h⟩
  | _ + 1 => ⟨fun _ => h, by rw [hr]; simp⟩
theorem ReadyG.nil : ReadyG F n P md ops Q T S k listed a w [] := fun _ h => by cases h
theorem ReadyG.cons {o : Oper} (ho : ops[i]? = some o) (hg : o.guard = none)
    (h : ∀ K : Act → World → Prop, (∀ a2 w2, ((T i = true → w2 = w) ∧ (T i = false → ∀ x, x < ops.size → T x = true → waitsT md ops ops.size i x = false → S x w2)) ∧ AnyG F n P md ops Q T S k (listed.setIfInBounds i true) a2 w2 → K a2 w2) → Oper.wpIn F n P o a w K Q) (hs : ReadyG F n P md ops Q T S k listed a w rs) : ReadyG F n P md ops Q T S k listed a w (i :: rs) := fun j hj => by
  rcases List.mem_cons.1 hj with rfl | hj
  · refine wpOpIn_step ho (fun K hK => ?_)
    rw [if_pos (by simp [Region.wanted, hg])]
    exact h K hK
  · exact hs j hj
/-- Does i wait for all of T below f? -/
def tightB (md : Region.Mode) (ops : Array Oper) (T : Nat → Bool) (f i : Nat) : Bool := (List.range f).all fun x => !(T x) || waitsT md ops ops.size i x
theorem tight_spec {f : Nat} (h : tightB md ops T f i = true) (hS : ∀ x, f ≤ x → ∀ w, S x w) (w2 : World) : ∀ x, x < ops.size → T x = true → waitsT md ops ops.size i x = false → S x w2 := by
  intro x _ hx hw
  rcases Nat.lt_or_ge x f with h1 | h1
  · have h2 := List.all_eq_true.1 h x (List.mem_range.2 h1)
    rw [hx, hw] at h2
    cases h2
  · exact hS x h1 w2
theorem tight_of {f : Nat} {A : Prop} (h : tightB md ops T f i = true) : ∀ x, x < ops.size → T x = true → waitsT md ops ops.size i x = false → x < f → A := by
  intro x _ hx hw h1
  have h2 := List.all_eq_true.1 h x (List.mem_range.2 h1)
  rw [hx, hw] at h2
  cases h2
theorem no_wait {A : Prop} {k j x : Nat} (h : waitsT md ops k j x = false) (hb : waitsT md ops k j x = true) : A := by rw [h] at hb; cases hb
theorem tight_any {f : Nat} {A : Nat → Prop} (h : tightB md ops T f i = true) (hf : ops.size ≤ f) : ∀ x, x < ops.size → T x = true → waitsT md ops ops.size i x = false → A x := by
  intro x hx hT hw
  have h2 := List.all_eq_true.1 h x (List.mem_range.2 (by omega))
  rw [hT, hw] at h2
  cases h2
theorem about_plain {o : Oper} (hnc : ∀ c, o.op ≠ .call c) : o.about P w a.eval = none := by
  unfold Oper.about
  cases ho : o.op <;> first | rfl | exact absurd ho (hnc _)
theorem ReadyG.op (d : Option Tmp) (opr : Op) (ho : (ops[i]?).map (fun o => (o.dst, o.op, o.guard)) = some (d, opr, none)) (hro : F.round = none) (hnc : ∀ c, opr ≠ .call c) (v : Value)
    (hrun : ∀ o : Oper, o.op = opr → (execOp a.eval o).run P w = .ok (.value v) w2) (hTi : T i = false) (hk : ∀ x, x < ops.size → T x = true → waitsT md ops ops.size i x = false → S x w2) (h : AnyG F n P md ops Q T S k (listed.setIfInBounds i true) (a.put d v) w2)
    (hs : ReadyG F n P md ops Q T S k listed a w rs) : ReadyG F n P md ops Q T S k listed a w (i :: rs) := by
  cases hq : ops[i]? with
  | none => simp [hq] at ho
  | some o =>
    simp [hq] at ho
    obtain ⟨rfl, rfl, hg⟩ := ho
    refine ReadyG.cons hq hg (fun K hK => ⟨fun f hf => (by rw [about_plain hnc] at hf; cases hf), ?_⟩) hs
    rw [hro, Oper.semAt_none, hrun o rfl]
    exact hK _ _ ⟨⟨fun e => (by rw [hTi] at e; cases e), fun _ => hk⟩, h⟩
theorem ReadyG.skip (opr : Op) (ho : (ops[i]?).map (fun o => (o.dst, o.op, o.guard)) = some (none, opr, none)) (hro : F.round = none) (hnc : ∀ c, opr ≠ .call c)
    (hrun : ∀ o : Oper, o.op = opr → (execOp a.eval o).run P w = .ok .skip w2) (hTi : T i = false) (hk : ∀ x, x < ops.size → T x = true → waitsT md ops ops.size i x = false → S x w2) (h : AnyG F n P md ops Q T S k (listed.setIfInBounds i true) a w2)
    (hs : ReadyG F n P md ops Q T S k listed a w rs) : ReadyG F n P md ops Q T S k listed a w (i :: rs) := by
  cases hq : ops[i]? with
  | none => simp [hq] at ho
  | some o =>
    simp [hq] at ho
    obtain ⟨hd, rfl, hg⟩ := ho
    refine ReadyG.cons hq hg (fun K hK => ⟨fun f hf => (by rw [about_plain hnc] at hf; cases hf), ?_⟩) hs
    rw [hro, Oper.semAt_none, hrun o rfl]
    have e : a.put o.dst undef = a := by rw [hd]; rfl
    have h2 : K a w2 := hK _ _ ⟨⟨fun e => (by rw [hTi] at e; cases e), fun _ => hk⟩, h⟩
    rw [← e] at h2
    exact h2
/-- A call of yield. -/
theorem ReadyG.yield (d : Option Tmp) (f : Operand) (args : Array Operand) (tys : Array TypeId) (ho : (ops[i]?).map (fun o => (o.dst, o.op, o.guard)) = some (d, .call { callee := .value f, args := args, argTypes := tys }, none))
    (hro : F.round = none) (hd : F.depth = none) (l : Nat) (hf : a.eval f = .func (.yield l) #[] #[]) (avs : Array Value) (has : args.map a.eval = avs) (R : Ending → World → Prop) {m : Nat} (hy : YieldAt F m P l avs w R)
    (hTi : T i = false)
    (hK : ∀ v w2, R (.returned v) w2 → (∀ x, x < ops.size → T x = true → waitsT md ops ops.size i x = false → S x w2) ∧ AnyG F n P md ops Q T S k (listed.setIfInBounds i true) (a.put d v) w2) (hnp : ∀ c w2, ¬ R (.panicked c) w2) (hno : ∀ w2, ¬ R .outgrown w2)
    (hs : ReadyG F n P md ops Q T S k listed a w rs) : ReadyG F n P md ops Q T S k listed a w (i :: rs) := by
  cases hq : ops[i]? with
  | none => simp [hq] at ho
  | some o =>
    simp [hq] at ho
    obtain ⟨rfl, hop, hg⟩ := ho
    refine ReadyG.cons hq hg (fun K hK2 => ?_) hs
    obtain ⟨fn, tmps, assign, body, hrun, hR⟩ := anyDepthY hd (n - 1) hy
    have hres : (resolve a.eval { callee := .value f, args := args, argTypes := tys } o.type).run P w = .ok { target := .fn (.yield l) #[], args := avs } w := by
      simp [resolve, hf, has, Deferred.ofValue]
    refine ⟨fun f' hf' => ?_, ?_⟩
    · unfold Oper.about at hf'
      simp only [hop, hres] at hf'
      simp [Target.leads] at hf'
    · rw [hro, Oper.semAt_none]
      have hx : (execOp a.eval o).run P w = .ok (.round l fn tmps assign body) w := by
        unfold execOp
        simp only [hop, Sem.run_bind, hres, Result.andThen_ok, invoke]
        exact hrun
      rw [hx, Oper.uponIn_round]
      refine ⟨fun h => (by rw [hd] at h; cases h), hR.mono ?_⟩
      intro e w' hr
      cases e with
      | returned v => exact hK2 _ _ ⟨⟨fun e => (by rw [hTi] at e; cases e), fun _ => (hK v w' hr).1⟩, (hK v w' hr).2⟩
      | panicked c => exact (hnp c w' hr).elim
      | outgrown => exact (hno w' hr).elim
/-- A call of a function. -/
theorem ReadyG.call (d : Option Tmp) (g : FuncId) (args : Array Operand) (tys : Array TypeId) (ho : (ops[i]?).map (fun o => (o.dst, o.op, o.guard)) = some (d, .call { callee := .value (.func g), args := args, argTypes := tys }, none))
    (hro : F.round = none) (hd : F.depth = none) (hfn : ∀ f, F.fn f) (avs : Array Value) (has : args.map a.eval = avs) (eg : ∀ args w, (callFunc g args).run P w = .ok (.enter g args) w) (R : Ending → World → Prop) (hcl : CallsIn F (n - 1) P g avs w R)
    (hTi : T i = false)
    (hK : ∀ v w2, R (.returned v) w2 → (∀ x, x < ops.size → T x = true → waitsT md ops ops.size i x = false → S x w2) ∧ AnyG F n P md ops Q T S k (listed.setIfInBounds i true) (a.put d v) w2) (hnp : ∀ c w2, ¬ R (.panicked c) w2) (hno : ∀ w2, ¬ R .outgrown w2)
    (hs : ReadyG F n P md ops Q T S k listed a w rs) : ReadyG F n P md ops Q T S k listed a w (i :: rs) := by
  cases hq : ops[i]? with
  | none => simp [hq] at ho
  | some o =>
    simp [hq] at ho
    obtain ⟨rfl, hop, hg⟩ := ho
    refine ReadyG.cons hq hg (fun K hK2 => ⟨fun f _ => hfn f, ?_⟩) hs
    have hev : a.eval (.func g) = .func (.func g) #[] #[] := rfl
    have hres : (resolve a.eval { callee := .value (.func g), args := args, argTypes := tys } o.type).run P w = .ok { target := .fn (.func g) #[], args := avs } w := by
      simp [resolve, hev, has, Deferred.ofValue]
    have hx : (execOp a.eval o).run P w = .ok (.enter g avs) w := by
      unfold execOp
      simp only [hop, Sem.run_bind, hres, Result.andThen_ok, invoke]
      simp [eg]
    rw [hro, Oper.semAt_none, hx, Oper.uponIn_enter]
    refine ⟨fun h => (by rw [hd] at h; cases h), hcl.mono ?_⟩
    intro e w' hr
    cases e with
    | returned v => exact hK2 _ _ ⟨⟨fun e => (by rw [hTi] at e; cases e), fun _ => (hK v w' hr).1⟩, (hK v w' hr).2⟩
    | panicked c => exact (hnp c w' hr).elim
    | outgrown => exact (hno w' hr).elim

variable {o : Oper}
theorem uponIn_unround {K : Act → World → Prop} (l : Nat) (r : Result Next) (h : o.uponIn F n P a K Q r) : o.uponIn (F.inRound l) n P a K Q r := by
  cases r with
  | ok x w => cases x <;> exact h
  | halt x w => exact h
theorem opIn_unround {K : Act → World → Prop} (l : Nat) (hro : F.round = none) (hnd : ∀ c, o.op ≠ .defer c) (h : Oper.wpIn F n P o a w K Q) : Oper.wpIn (F.inRound l) n P o a w K Q := by
  refine ⟨h.1, ?_⟩
  have h2 := h.2
  rw [hro, Oper.semAt_none] at h2
  rw [Fence.inRound_round, Oper.semAt_some l _ _ hnd]
  exact uponIn_unround l _ h2
def noDefer (ops : Array Oper) : Bool := ops.all fun o => match o.op with | .defer _ => false | _ => true
theorem noDefer_spec (h : noDefer ops = true) (i : Nat) (o : Oper) (ho : ops[i]? = some o) : ∀ c, o.op ≠ .defer c := by
  intro c hc
  have h1 := Array.all_eq_true_iff_forall_mem.1 h o (Array.mem_of_getElem? ho)
  simp [hc] at h1
theorem anyIn_unround (l : Nat) (hro : F.round = none) (hnd : noDefer ops = true) : ∀ (fuel : Nat) (listed : Array Bool) (a : Act) (w : World), wpAnyIn F n P md ops Q fuel listed a w → wpAnyIn (F.inRound l) n P md ops Q fuel listed a w
  | 0, _, _, _, h => h
  | fuel + 1, listed, a, w, h => by
    refine ⟨h.1, fun i hi => ?_⟩
    have h2 := h.2 i hi
    unfold wpOpIn at h2 ⊢
    cases hq : ops[i]? with
    | none => rw [hq] at h2; exact anyIn_unround l hro hnd _ _ _ _ h2
    | some o =>
      rw [hq] at h2
      simp only at h2 ⊢
      by_cases hw : Region.wanted o (yielded ops a.tmps) = true
      · rw [if_pos hw] at h2 ⊢
        exact Oper.wpIn_mono (fun a w h => anyIn_unround l hro hnd _ _ _ _ h) (opIn_unround l hro (noDefer_spec hnd i o hq) h2)
      · rw [if_neg hw] at h2 ⊢
        exact ⟨h2.1, anyIn_unround l hro hnd _ _ _ _ h2.2⟩
end
end Go.Proofs.YtdbbcngolcnniaaDoor
/- The iterators of package codec over the bytes of a text, forward and backward: what they hand out. No condition but that the text is no longer than Go lets it be. -/
namespace Go.Proofs.YtdbbcngolcnniaaDoor
set_option linter.unusedSimpArgs false
open Go.RowKit Go.Shelf
set_option linter.unusedVariables false
attribute [local go_sem] Oper.semAt_some

/-- The bytes of a text, as numbers. -/
def natsOf (s : ByteArray) : List Nat := s.data.toList.map UInt8.toNat
theorem natsOf_length (s : ByteArray) : (natsOf s).length = s.size := by simp [natsOf]
theorem take_succ_get (l : List Nat) (k : Nat) (h : k < l.length) : l.take (k + 1) = l.take k ++ [l[k]] := by
  rw [List.take_add_one]; simp [h]
theorem natsOf_get (s : ByteArray) (k : Nat) (h : k < s.size) : (natsOf s)[k]'(by rw [natsOf_length]; exact h) = s[k].toNat := by
  simp [natsOf, ByteArray.getElem_eq_getElem_data]
theorem take_prefix (l : List Nat) (k : Nat) (h : k < l.length) : l.take k ++ [l[k]] <+: l := by
  rw [← take_succ_get l k h]; exact List.take_prefix _ _

set_option maxHeartbeats 1000000 in
theorem forward_seq (s : ByteArray) (n0 b : Nat) (w0 : World) (hb : b < n0) (hn : n0 ≤ w0.heap.size) (hc : w0.cell? ⟨b, 0, none⟩ = some (.string s)) (hs : s.size ≤ 9223372036854775807) :
    SeqOK Tryd.prog 70 #[.pointer (some ⟨b, 0, none⟩)] (natsOf s) n0 w0 := by
  refine ⟨hn, ?_⟩
  intro m l J Jx S W hW hJ hJx hS hY h0
  have hbW : b < W.heap.size := by have := hW.size; omega
  have hcW : W.cell? ⟨b, 0, none⟩ = some (.string s) := (hW.cell (p := ⟨b, 0, none⟩) hb).trans hc
  have hbS : ¬ S b := fun h => by have := hS b h; omega
  refine callsIn_of_wp Tryd.func70 rfl trivial ?_ rfl
  simp only [Tryd.ntmps70, List.size_toArray, List.length_cons, List.length_nil, Nat.reduceAdd, Nat.reduceSub, Array.replicate_succ, Array.replicate_zero, List.push_toArray, List.append_toArray, List.nil_append, List.cons_append]
  have hd : Fence.wide.depth = none := rfl
  clear hc hb
  gi_wp2
  gi_loopw [6] (fun i wr => ∃ (k : Nat) (S1 : Nat → Prop), i = .int .i64 k ∧ k ≤ s.size ∧ Ext S S1 W wr ∧ J ((natsOf s).take k) S1 wr)
    (fun i _ => s.size - (intOf i).toNat)
  case atStart => exact ⟨0, S, rfl, Nat.zero_le _, Ext.refl _ _, h0⟩
  case round =>
    obtain ⟨k, S1, rfl, hk, hE, hJs⟩ := hrel
    have hcr : wr.cell? ⟨b, 0, none⟩ = some (.string s) := (hE.cell (p := ⟨b, 0, none⟩) hbW hbS).trans hcW
    by_cases hlt : k < s.size
    · have hlen : k < (natsOf s).length := by rw [natsOf_length]; exact hlt
      have hstep := take_succ_get (natsOf s) k hlen
      obtain ⟨fn, tmps, assign, body, hy, hR⟩ := anyDepthY hd (m - 1) (hY _ (natsOf s)[k] S1 wr hE hJs (take_prefix _ k hlen))
      have hR2 := Lib.hid hR
      have hstep2 := Lib.hid hstep
      rw [natsOf_get s k hlt] at hy
      have hK := Lib.hid hY
      clear hY hJs hR hstep
      gi_wp2
      refine hR2.out.mono ?_
      rintro e W3 ⟨S2, hE2, (⟨rfl, hJ3⟩ | ⟨rfl, hJx3⟩)⟩
      · gi_wp2
        go_roundw
        case rel => exact ⟨k + 1, S2, by simp, by omega, hE.trans hE2, by rw [hstep2.out]; exact hJ3⟩
        case measure => simp [intOf]; omega
      · gi_wp2
        refine bodyPost_ret (results_none rfl _ _ _) rfl ?_
        exact ⟨⟨_, rfl⟩, S2, hE.trans hE2, .inr ⟨_, take_prefix _ k hlen, hJx3⟩⟩
    · have hkl : k = s.size := by omega
      have hJ2 : Hid (J (natsOf s) S1 wr) := by unfold Hid; rw [← List.take_length (l := natsOf s), natsOf_length, ← hkl]; exact hJs
      have hE2 := Lib.hid hE
      clear hY hJs hE
      subst hkl
      gi_wp2
      go_end0
      exact ⟨⟨_, rfl⟩, S1, hE2.out, .inl hJ2.out⟩

theorem rev_get (s : ByteArray) (k : Nat) (h : k < s.size) : (natsOf s).reverse[k]'(by rw [List.length_reverse, natsOf_length]; exact h) = (s[s.size - 1 - k]'(by omega)).toNat := by
  rw [List.getElem_reverse, ← natsOf_get s (s.size - 1 - k) (by omega)]
  congr 1
  rw [natsOf_length]

set_option maxHeartbeats 1000000 in
theorem backward_seq (s : ByteArray) (n0 b : Nat) (w0 : World) (hb : b < n0) (hn : n0 ≤ w0.heap.size) (hc : w0.cell? ⟨b, 0, none⟩ = some (.string s)) (hs : s.size ≤ 9223372036854775807) :
    SeqOK Tryd.prog 72 #[.pointer (some ⟨b, 0, none⟩)] (natsOf s).reverse n0 w0 := by
  refine ⟨hn, ?_⟩
  intro m l J Jx S W hW hJ hJx hS hY h0
  have hbW : b < W.heap.size := by have := hW.size; omega
  have hcW : W.cell? ⟨b, 0, none⟩ = some (.string s) := (hW.cell (p := ⟨b, 0, none⟩) hb).trans hc
  have hbS : ¬ S b := fun h => by have := hS b h; omega
  refine callsIn_of_wp Tryd.func72 rfl trivial ?_ rfl
  simp only [Tryd.ntmps72, List.size_toArray, List.length_cons, List.length_nil, Nat.reduceAdd, Nat.reduceSub, Array.replicate_succ, Array.replicate_zero, List.push_toArray, List.append_toArray, List.nil_append, List.cons_append]
  have hd : Fence.wide.depth = none := rfl
  clear hc hb
  gi_wp2
  gi_loopw [3] (fun i wr => ∃ (k : Nat) (S1 : Nat → Prop), i = .int .i64 ((s.size : Int) - 1 - k) ∧ k ≤ s.size ∧ Ext S S1 W wr ∧ J ((natsOf s).reverse.take k) S1 wr)
    (fun i _ => (intOf i + 1).toNat)
  case atStart => exact ⟨0, S, by simp, Nat.zero_le _, Ext.refl _ _, h0⟩
  case round =>
    obtain ⟨k, S1, rfl, hk, hE, hJs⟩ := hrel
    have hcr : wr.cell? ⟨b, 0, none⟩ = some (.string s) := (hE.cell (p := ⟨b, 0, none⟩) hbW hbS).trans hcW
    by_cases hlt : k < s.size
    · have hlen : k < (natsOf s).reverse.length := by rw [List.length_reverse, natsOf_length]; exact hlt
      have hstep := take_succ_get (natsOf s).reverse k hlen
      obtain ⟨fn, tmps, assign, body, hy, hR⟩ := anyDepthY hd (m - 1) (hY _ ((natsOf s).reverse[k]) S1 wr hE hJs (take_prefix _ k hlen))
      have hR2 := Lib.hid hR
      have hstep2 := Lib.hid hstep
      rw [rev_get s k hlt] at hy
      have hpre := Lib.hid (take_prefix (natsOf s).reverse k hlen)
      clear hY hJs hR hstep
      obtain ⟨q, hq⟩ : ∃ q, q = s.size - 1 - k := ⟨_, rfl⟩
      have hqs : q < s.size := by omega
      have hqi : (s.size : Int) - 1 - k = (q : Int) := by omega
      have hqn : ((q : Int) - 1) = (s.size : Int) - 1 - ((k + 1 : Nat) : Int) := by omega
      have hqH := Lib.hid hqn
      have hy2 : (Instr.yield l #[.int .u8 ((s[q].toNat : Nat) : Int)]).run Tryd.prog wr = .ok (.round l fn tmps assign body) wr := by subst hq; exact hy
      clear hy hq hqn
      rw [hqi]
      gi_wp2
      refine hR2.out.mono ?_
      rintro e W3 ⟨S2, hE2, (⟨rfl, hJ3⟩ | ⟨rfl, hJx3⟩)⟩
      · gi_wp2
        go_roundw
        case rel => exact ⟨k + 1, S2, by rw [← hqH.out], by omega, hE.trans hE2, by rw [hstep2.out]; exact hJ3⟩
        case measure => (simp [intOf] <;> omega)
      · gi_wp2
        refine bodyPost_ret (results_none rfl _ _ _) rfl ?_
        exact ⟨⟨_, rfl⟩, S2, hE.trans hE2, .inr ⟨_, hpre.out, hJx3⟩⟩
    · have hkl : k = s.size := by omega
      have hJ2 : Hid (J (natsOf s).reverse S1 wr) := by
        unfold Hid
        have : (natsOf s).reverse.take k = (natsOf s).reverse := List.take_of_length_le (by rw [List.length_reverse, natsOf_length]; omega)
        rw [← this]; exact hJs
      have hE2 := Lib.hid hE
      clear hY hJs hE
      have hki : (s.size : Int) - 1 - k = -1 := by omega
      rw [hki]
      gi_wp2
      go_end0
      exact ⟨⟨_, rfl⟩, S1, hE2.out, .inl hJ2.out⟩
end Go.Proofs.YtdbbcngolcnniaaDoor
/- The iterators of package codec that tell letters by numbers, and numbers by letters: what they hand out, whatever hands them theirs. -/
namespace Go.Proofs.YtdbbcngolcnniaaDoor
set_option linter.unusedSimpArgs false
open Go.RowKit Go.Shelf
set_option linter.unusedVariables false
attribute [local go_sem] Oper.semAt_some

theorem Ext.late {S T : Nat → Prop} {A B : World} (h : Ext S T A B) {D : Nat} (hD : A.heap.size ≤ D) (o : Obj) : Ext S T A (B.putObj D o) := by
  have h3 := grownBy_putObj' B D o
  exact ⟨h3.os.trans h.os, h3.tape.trans h.tape, h3.output.trans h.output, by have := h.size; simp; omega, h.new, fun k hk hs => (World.putObj_heap_other (by omega)).trans (h.keep k hk hs)⟩
theorem prefix_map {l m : List Nat} (f : Nat → Nat) (h : l <+: m) : l.map f <+: m.map f := by
  obtain ⟨t, rfl⟩ := h
  exact ⟨t.map f, by simp⟩
theorem Ext.cellb {S T : Nat → Prop} {A B : World} (h : Ext S T A B) {b o : Nat} (hp : b < A.heap.size) (hs : ¬ S b) : B.cell? ⟨b, o, none⟩ = A.cell? ⟨b, o, none⟩ := h.cell (p := ⟨b, o, none⟩) hp hs

/-- What stands at place y of the set. -/
def setAt (set : ByteArray) (y : Nat) : Nat := (natsOf set).getD y 0

set_option maxHeartbeats 1000000 in
theorem letters_seq (set : ByteArray) (gf : Nat) (lb : Array Value) (ys : List Nat) (n0 n1 b1 b2 : Nat) (w0 : World) (hq : SeqOK Tryd.prog gf lb ys n1 w0) (hn1 : n1 ≤ n0) (hn : n0 ≤ w0.heap.size) (hb1 : b1 < n0) (hb2 : b2 < n0)
    (hc1 : w0.cell? ⟨b1, 0, none⟩ = some (.func (.func gf) #[] lb)) (hc2 : w0.cell? ⟨b2, 0, none⟩ = some (.string set))
    (eg : ∀ args w, (callFunc gf args).run Tryd.prog w = .ok (.enter gf args) w) (hys : ∀ y ∈ ys, y < set.size) :
    SeqOK Tryd.prog 68 #[.pointer (some ⟨b1, 0, none⟩), .pointer (some ⟨b2, 0, none⟩)] (ys.map (setAt set)) n0 w0 := by
  refine ⟨hn, ?_⟩
  intro m l J Jx S W hW hJ hJx hS hY h0
  have hs1 := hW.size
  have d1 : W.cell? ⟨b1, 0, none⟩ = some (.func (.func gf) #[] lb) := (hW.cell (p := ⟨b1, 0, none⟩) hb1).trans hc1
  have d2 : W.cell? ⟨b2, 0, none⟩ = some (.string set) := (hW.cell (p := ⟨b2, 0, none⟩) hb2).trans hc2
  refine callsIn_of_wp_marks Tryd.func68 rfl trivial ?_ rfl
  simp only [Tryd.ntmps68, List.size_toArray, List.length_cons, List.length_nil, Nat.reduceAdd, Nat.reduceSub, Array.replicate_succ, Array.replicate_zero, List.push_toArray, List.append_toArray, List.nil_append, List.cons_append]
  have hd : Fence.wide.depth = none := rfl
  clear hc1 hc2
  have dd1 : (W.alloc (.cells #[.func (.yield l) #[] #[]] 57)).cell? ⟨b1, 0, none⟩ = some (.func (.func gf) #[] lb) := ((Below.refl n0 W).alloc (by omega) _).cell (p := ⟨b1, 0, none⟩) hb1 |>.trans d1
  gi_wp2
  have hE1 : Ext S S W (W.alloc (.cells #[.func (.yield l) #[] #[]] 57)) := Ext.of_below S ((Below.refl _ W).alloc (Nat.le_refl _) _)
  refine wpIn_rangeFunc_set (gf := gf) (lb := lb) rfl eg (hq.up hn1 hn) ((hW.alloc (by omega) _)) rfl
    (fun pre S2 W2 => J (pre.map (setAt set)) S2 W2) (fun c pre S2 W2 => c = .ret ∧ Jx (pre.map (setAt set)) S2 W2)
    ⟨fun x => hJ.same (x.map (setAt set)), fun x => hJ.lt (x.map (setAt set))⟩
    (fun c => ⟨fun x S W W2 h hs hk => ⟨h.1, hJx.same _ S W W2 h.2 hs hk⟩, fun x S W h => hJx.lt _ S W h.2⟩) S hS (hJ.alloc _ h0)
    (fun x => { tmps := #[.func (.yield l) #[] #[], .pointer (some ⟨b1, 0, none⟩), .pointer (some ⟨b2, 0, none⟩), .pointer (some ⟨W.heap.size, 0, none⟩), .int .u8 (x : Int), .func (.func gf) #[] lb, .int .u8 (x : Int), undef, undef, undef, undef, undef, undef], defers := [] }) ?assign ?body ?done ?stop
  case assign =>
    intro l x W K hK
    gi_wp2
    exact hK
  case body =>
    intro lr pre x S2 W2 hE hJ2 hpre
    have hx : x < set.size := hys x (by obtain ⟨t, rfl⟩ := hpre; simp)
    have e1 : W2.cell? ⟨W.heap.size, 0, none⟩ = some (.func (.yield l) #[] #[]) := (hE.cellb (by simp) (fun h => by have := hJ.lt _ _ _ h0 _ h; omega)).trans (Boxed.new W 57 _).cell
    have e2 : W2.cell? ⟨b2, 0, none⟩ = some (.string set) := by
      refine (hE.cellb (by simp; omega) (fun h => by have := hS _ h; omega)).trans ?_
      exact (World.cell?_of_block (w := W) (a := ⟨b2, 0, none⟩) (Below.heap_alloc W _ b2 (by omega))).trans d2
    have hyy := hY (pre.map (setAt set)) (setAt set x) S2 W2.drew (hE1.trans hE).drew (hJ.drew hJ2) (by have := prefix_map (setAt set) hpre; simpa using this)
    have hv : setAt set x = set[x].toNat := by rw [setAt, List.getD_eq_getElem?_getD, List.getElem?_eq_getElem (by rw [natsOf_length]; exact hx), Option.getD_some, natsOf_get set x hx]
    have HY := Lib.hid hyy
    have HV := Lib.hid hv
    clear hyy hv hY hys
    gi_wp2
    refine wpIn_region_any (by kernel_rfl) ?_
    change wpAnyIn _ _ _ _ _ _ _ _ _ (World.drew _)
    refine anyIn_unround lr rfl (by kernel_rfl) _ _ _ _ ?_
    refine anyIn_of_G (T := fun i => i < 4 || i == 5) (S := fun i w => i < 4 → w.cell? ⟨W.heap.size, 0, none⟩ = some (.func (.yield l) #[] #[]) ∧ w.cell? ⟨b2, 0, none⟩ = some (.string set)) _ _ _ _ ?_
    have HS : ∀ i : Nat, i < 4 → W2.drew.cell? ⟨W.heap.size, 0, none⟩ = some (.func (.yield l) #[] #[]) ∧ W2.drew.cell? ⟨b2, 0, none⟩ = some (.string set) := fun _ _ => ⟨e1, e2⟩
    have HSH := Lib.hid HS
    clear HS
    refine AnyG.take 0 (some 7) (.load 57 (.tmp 3)) (.func (.yield l) #[] #[]) rfl rfl (fun _ e => by cases e) (by kernel_rfl) (by kernel_rfl) (by kernel_rfl) (by kernel_rfl) rfl (fun _ _ _ h => h) (fun o ho w hw => by obtain ⟨q1, q2⟩ := hw (by decide); unfold execOp; rw [ho]; go_simp) (HSH.out 0) ?_
    simp only [Act.put, List.setIfInBounds_toArray, List.set_cons_succ, List.set_cons_zero]
    refine AnyG.take 1 (some 8) (.load 9 (.tmp 2)) (.string set) rfl rfl (fun _ e => by cases e) (by kernel_rfl) (by kernel_rfl) (by kernel_rfl) (by kernel_rfl) rfl (fun _ _ _ h => h) (fun o ho w hw => by obtain ⟨q1, q2⟩ := hw (by decide); unfold execOp; rw [ho]; go_simp) (HSH.out 1) ?_
    simp only [Act.put, List.setIfInBounds_toArray, List.set_cons_succ, List.set_cons_zero]
    refine AnyG.take 2 (some 9) (.move (.tmp 4)) (.int .u8 (x : Int)) rfl rfl (fun _ e => by cases e) (by kernel_rfl) (by kernel_rfl) (by kernel_rfl) (by kernel_rfl) rfl (fun _ _ _ h => h) (fun o ho w hw => by obtain ⟨q1, q2⟩ := hw (by decide); unfold execOp; rw [ho]; go_simp) (HSH.out 2) ?_
    simp only [Act.put, List.setIfInBounds_toArray, List.set_cons_succ, List.set_cons_zero]
    refine AnyG.take 3 (some 10) (.index 9 (.tmp 8) (.tmp 9)) (.int .u8 (set[x].toNat : Int)) rfl rfl (fun _ e => by cases e) (by kernel_rfl) (by kernel_rfl) (by kernel_rfl) (by kernel_rfl) rfl (fun _ _ _ h => h) (fun o ho w hw => by obtain ⟨q1, q2⟩ := hw (by decide); unfold execOp; rw [ho]; go_simp) (HSH.out 3) ?_
    simp only [Act.put, List.setIfInBounds_toArray, List.set_cons_succ, List.set_cons_zero]
    have HY2 := HY.out
    rw [HV.out] at HY2
    refine AnyG.ready (rs := [4]) (by kernel_rfl) (by simp) (ReadyG.yield (some 11) (.tmp 7) #[.tmp 10] #[5] rfl rfl rfl l rfl #[.int .u8 (set[x].toNat : Int)] (by simp [Act.eval]) _ HY2 rfl ?_ (fun c w' h => by obtain ⟨_, _, ⟨h, -⟩ | ⟨h, -⟩⟩ := h <;> cases h) (fun w' h => by obtain ⟨_, _, ⟨h, -⟩ | ⟨h, -⟩⟩ := h <;> cases h) ReadyG.nil)
    rintro v W3 ⟨S3, hE3, hv3⟩
    refine ⟨tight_of (f := 4) ?_, ?_⟩
    · kernel_rfl
    have hE4 := Lib.hid hE3.undrew
    rcases hv3 with ⟨he, hJ3⟩ | ⟨he, hJx3⟩
    · obtain rfl : v = .bool true := by injection he
      simp only [Act.put, List.setIfInBounds_toArray, List.set_cons_succ, List.set_cons_zero]
      refine AnyG.take 5 (some 12) (.unOp .not 4 (.tmp 11)) (.bool false) rfl rfl (fun _ e => by cases e) (by kernel_rfl) (by kernel_rfl) (by kernel_rfl) (by kernel_rfl) rfl (fun _ _ _ h => h) (fun o ho w hw => by unfold execOp; rw [ho]; go_simp) (fun h => by omega) ?_
      simp only [Act.put, List.setIfInBounds_toArray, List.set_cons_succ, List.set_cons_zero]
      refine AnyG.done (by kernel_rfl) ?_ _
      have HJ3 := Lib.hid hJ3
      clear hJ3 he
      gi_wp2
      refine ⟨S3, hE4.out, ?_⟩
      rw [HV.out.symm] at HJ3
      simpa using HJ3.out
    · obtain rfl : v = .bool false := by injection he
      simp only [Act.put, List.setIfInBounds_toArray, List.set_cons_succ, List.set_cons_zero]
      refine AnyG.take 5 (some 12) (.unOp .not 4 (.tmp 11)) (.bool true) rfl rfl (fun _ e => by cases e) (by kernel_rfl) (by kernel_rfl) (by kernel_rfl) (by kernel_rfl) rfl (fun _ _ _ h => h) (fun o ho w hw => by unfold execOp; rw [ho]; go_simp) (fun h => by omega) ?_
      simp only [Act.put, List.setIfInBounds_toArray, List.set_cons_succ, List.set_cons_zero]
      refine AnyG.done (by kernel_rfl) ?_ _
      have HJ3 := Lib.hid hJx3
      clear hJx3 he
      gi_wp2
      rw [HV.out.symm] at HJ3
      exact ⟨S3, hE4.out, rfl, by simpa using HJ3.out⟩
  case done =>
    rintro D S2 W2 hD hnD hE hJ2 hK
    have HE := Lib.hid ((hE1.trans hE).late (D := D) (by simp at hD; omega) (.deferred none))
    have HJ := Lib.hid (hJ.put D (.deferred none) hnD hJ2)
    clear hY hE1 hE hJ2
    gi_wp2
    refine ⟨by simp, .inl ⟨_, _, rfl, run_takeDeferred hK, ?_⟩⟩
    exact ⟨_, results_none rfl _ _ _, ⟨_, rfl⟩, S2, HE.out, .inl HJ.out⟩
  case stop =>
    rintro D c pre S2 W2 hD hnD hE hpre ⟨rfl, hJ2⟩ hK
    have HE := Lib.hid ((hE1.trans hE).late (D := D) (by simp at hD; omega) (.deferred none))
    have HJ := Lib.hid (hJx.put D (.deferred none) hnD hJ2)
    have HP := Lib.hid (prefix_map (setAt set) hpre)
    clear hY hE1 hE hJ2 hpre
    gi_wp2
    refine ⟨by simp, .inl ⟨_, _, rfl, run_takeDeferred hK, ?_⟩⟩
    exact ⟨_, results_none rfl _ _ _, ⟨_, rfl⟩, S2, HE.out, .inr ⟨_, HP.out, HJ.out⟩⟩
end Go.Proofs.YtdbbcngolcnniaaDoor
/- What the library's functions hand back that package codec calls: its Builder, IndexByte, Repeat, TrimRight. -/
namespace Go.Proofs.YtdbbcngolcnniaaDoor
set_option linter.unusedSimpArgs false
set_option linter.unusedVariables false
open Go.Shelf
def lays169_ren : Go.Shelf.Ren := ⟨fun | 169 => 33 | n => n, fun | 70 => 48 | 9 => 9 | 0 => 0 | 72 => 50 | 37 => 41 | 127 => 87 | 3 => 3 | 5 => 5 | n => n, fun | n => n⟩
theorem lays169 : Go.Proofs.Lays.n169 Tryd.prog lays169_ren := {
  mixed := by kernel_rfl
  f169 := Tryd.func33.trans (congrArg some (by kernel_rfl))
  t0 := Tryd.underlying0
  a0 := Tryd.isAgg0
  z0 := Tryd.sizeOf0
  v0 := Tryd.zeroValue0
  t3 := Tryd.underlying3
  a3 := Tryd.isAgg3
  z3 := Tryd.sizeOf3
  v3 := Tryd.zeroValue3
  t9 := Tryd.underlying9
  a9 := Tryd.isAgg9
  z9 := Tryd.sizeOf9
  v9 := Tryd.zeroValue9
  t37 := Tryd.underlying41
  a37 := Tryd.isAgg41
  z37 := Tryd.sizeOf41
  v37 := Tryd.zeroValue41
  t70 := Tryd.underlying48
  a70 := Tryd.isAgg48
  z70 := Tryd.sizeOf48
  v70 := Tryd.zeroValue48
  t72 := Tryd.underlying50
  a72 := Tryd.isAgg50
  z72 := Tryd.sizeOf50
  v72 := Tryd.zeroValue50
  t127 := Tryd.underlying87
  a127 := Tryd.isAgg87
  z127 := Tryd.sizeOf87
  v127 := Tryd.zeroValue87 }
theorem Builder_Extra_169 : Builder.Extra Tryd.prog lays169_ren := {
  sizeBuilder := by kernel_rfl
  liesBuilder := by kernel_rfl
  t5 := Tryd.underlying5
  a5 := Tryd.isAgg5
  z5 := Tryd.sizeOf5
  v5 := Tryd.zeroValue5
  infoByte := by kernel_rfl
  cellsByte := by kernel_rfl
  sizeByte := by kernel_rfl
  neB5 := by decide }
def lays165_ren : Go.Shelf.Ren := ⟨fun | 165 => 65 | 240 => 58 | 241 => 82 | 276 => 77 | 277 => 87 | n => n, fun | 70 => 48 | 3 => 3 | 0 => 0 | 4 => 4 | 9 => 9 | 20 => 20 | 72 => 50 | 37 => 41 | 164 => 99 | 5 => 5 | n => n, fun | n => n⟩
theorem lays165 : Go.Proofs.Lays.n165 Tryd.prog lays165_ren := {
  mixed := by kernel_rfl
  f165 := Tryd.func65.trans (congrArg some (by kernel_rfl))
  f240 := Tryd.func58.trans (congrArg some (by kernel_rfl))
  f241 := Tryd.func82.trans (congrArg some (by kernel_rfl))
  f276 := Tryd.func77.trans (congrArg some (by kernel_rfl))
  f277 := Tryd.func87.trans (congrArg some (by kernel_rfl))
  t0 := Tryd.underlying0
  a0 := Tryd.isAgg0
  z0 := Tryd.sizeOf0
  v0 := Tryd.zeroValue0
  t3 := Tryd.underlying3
  a3 := Tryd.isAgg3
  z3 := Tryd.sizeOf3
  v3 := Tryd.zeroValue3
  t4 := Tryd.underlying4
  a4 := Tryd.isAgg4
  z4 := Tryd.sizeOf4
  v4 := Tryd.zeroValue4
  t9 := Tryd.underlying9
  a9 := Tryd.isAgg9
  z9 := Tryd.sizeOf9
  v9 := Tryd.zeroValue9
  t20 := Tryd.underlying20
  a20 := Tryd.isAgg20
  z20 := Tryd.sizeOf20
  v20 := Tryd.zeroValue20
  t37 := Tryd.underlying41
  a37 := Tryd.isAgg41
  z37 := Tryd.sizeOf41
  v37 := Tryd.zeroValue41
  t70 := Tryd.underlying48
  a70 := Tryd.isAgg48
  z70 := Tryd.sizeOf48
  v70 := Tryd.zeroValue48
  t72 := Tryd.underlying50
  a72 := Tryd.isAgg50
  z72 := Tryd.sizeOf50
  v72 := Tryd.zeroValue50
  t164 := Tryd.underlying99
  a164 := Tryd.isAgg99
  z164 := Tryd.sizeOf99
  v164 := Tryd.zeroValue99 }
theorem Builder_Extra_165 : Builder.Extra Tryd.prog lays165_ren := {
  sizeBuilder := by kernel_rfl
  liesBuilder := by kernel_rfl
  t5 := Tryd.underlying5
  a5 := Tryd.isAgg5
  z5 := Tryd.sizeOf5
  v5 := Tryd.zeroValue5
  infoByte := by kernel_rfl
  cellsByte := by kernel_rfl
  sizeByte := by kernel_rfl
  neB5 := by decide }
def lays137_ren : Go.Shelf.Ren := ⟨fun | 137 => 79 | 217 => 83 | 266 => 88 | n => n, fun | 9 => 9 | 5 => 5 | 3 => 3 | n => n, fun | n => n⟩
theorem lays137 : Go.Proofs.Lays.n137 Tryd.prog lays137_ren := {
  mixed := by kernel_rfl
  f137 := Tryd.func79.trans (congrArg some (by kernel_rfl))
  f217 := Tryd.func83.trans (congrArg some (by kernel_rfl))
  f266 := Tryd.func88.trans (congrArg some (by kernel_rfl))
  t3 := Tryd.underlying3
  a3 := Tryd.isAgg3
  z3 := Tryd.sizeOf3
  v3 := Tryd.zeroValue3
  t5 := Tryd.underlying5
  a5 := Tryd.isAgg5
  z5 := Tryd.sizeOf5
  v5 := Tryd.zeroValue5
  t9 := Tryd.underlying9
  a9 := Tryd.isAgg9
  z9 := Tryd.sizeOf9
  v9 := Tryd.zeroValue9 }
open Go.RowKit in
theorem strings_IndexByte (s : ByteArray) (c : Int) (w : World) :
    Calls Tryd.prog 79 #[.string s, .int .u8 c] w fun e w' => e = .returned (.int .i64 (Lib.indexByte s.data.toList c.toNat.toUInt8)) ∧ w' = w := Any.strings_IndexByte lays137 s c w
open Go.RowKit in
theorem Builder_String_any_k (B b : Nat) (l : List UInt8) (w : World) (h : Lib.IsBuilderF 50 5 B b (Lib.byteCells l) w) (hBw : B ≤ w.heap.size) :
    Calls Tryd.prog 33 #[.pointer (some ⟨b, 0, none⟩)] w fun e w' => e = .returned (.string ⟨l.toArray⟩) ∧ (Lib.IsBuilderF 50 5 B b (Lib.byteCells l) w' ∧ Below B w w' ∧ Lib.OthersKept 5 (some b) w w') := Any.Builder_String_any_k lays169 Builder_Extra_169 B b l w h hBw
open Go.RowKit in
theorem Builder_Grow_fresh_cap (B b n : Nat) (w : World) (hB : B ≤ b) (hbk : w.heap[b]? = some (.cells #[.pointer none, .slice none 0 0] 50 (0, 0))) (hBw : B ≤ w.heap.size) (hn : n ≤ 281474976710656) :
    Calls Tryd.prog 65 #[.pointer (some ⟨b, 0, none⟩), .int .i64 n] w fun e w' => e = .returned (.tuple #[]) ∧ (Lib.BuilderAt 50 5 B b (.pointer (some ⟨b, 0, none⟩)) [] w' ∧ Below B w w') ∧ ∃ p cap, w'.cell? ⟨b, 1, none⟩ = some (.slice p 0 cap) ∧ n ≤ cap := Any.Builder_Grow_fresh_cap lays165 Builder_Extra_165 B b n w hB hbk hBw hn
def laysM316_ren : Go.Shelf.Ren := ⟨fun | 316 => 41 | n => n, fun | 9 => 9 | 3 => 3 | 4 => 4 | 37 => 41 | 0 => 0 | 127 => 87 | 5 => 5 | n => n, fun | n => n⟩
theorem laysM316 : Go.Proofs.LaysM.n316 Tryd.prog laysM316_ren := {
  mixed := by kernel_rfl
  f316 := Tryd.func41.trans (congrArg some (by kernel_rfl))
  t0 := Tryd.underlying0
  a0 := Tryd.isAgg0
  z0 := Tryd.sizeOf0
  v0 := Tryd.zeroValue0
  t3 := Tryd.underlying3
  a3 := Tryd.isAgg3
  z3 := Tryd.sizeOf3
  v3 := Tryd.zeroValue3
  t4 := Tryd.underlying4
  a4 := Tryd.isAgg4
  z4 := Tryd.sizeOf4
  v4 := Tryd.zeroValue4
  t9 := Tryd.underlying9
  a9 := Tryd.isAgg9
  z9 := Tryd.sizeOf9
  v9 := Tryd.zeroValue9
  t37 := Tryd.underlying41
  a37 := Tryd.isAgg41
  z37 := Tryd.sizeOf41
  v37 := Tryd.zeroValue41
  t127 := Tryd.underlying87
  a127 := Tryd.isAgg87
  z127 := Tryd.sizeOf87
  v127 := Tryd.zeroValue87
  t5 := Tryd.underlying5
  a5 := Tryd.isAgg5
  z5 := Tryd.sizeOf5
  v5 := Tryd.zeroValue5
  i0 := by kernel_rfl
  i3 := by kernel_rfl
  i4 := by kernel_rfl
  i5 := by kernel_rfl
  i9 := by kernel_rfl
  i37 := by kernel_rfl
  i127 := by kernel_rfl }
open Go.RowKit in
theorem stringslite_Clone (s : ByteArray) (w : World) (hlim : s.size ≤ 281474976710656) :
    Calls Tryd.prog 41 #[.string s] w fun e w' => e = .returned (.string s) ∧ Below w.heap.size w w' := Any.stringslite_Clone laysM316 s w hlim
end Go.Proofs.YtdbbcngolcnniaaDoor
/- The iterator of package codec that tells numbers by letters: what it hands out, whatever hands it its letters. -/
namespace Go.Proofs.YtdbbcngolcnniaaDoor
set_option linter.unusedSimpArgs false
open Go.RowKit Go.Shelf
set_option linter.unusedVariables false
attribute [local go_sem] Oper.semAt_some

/-- The place of a letter in the set; 0 if it is none. -/
def numAt (set : ByteArray) (c : Nat) : Nat := (Lib.indexByte set.data.toList (Nat.toUInt8 c)).toNat

set_option maxHeartbeats 1000000 in
theorem numbers_seq (set : ByteArray) (gf : Nat) (lb : Array Value) (ys : List Nat) (n0 n1 b1 b2 : Nat) (w0 : World) (hq : SeqOK Tryd.prog gf lb ys n1 w0) (hn1 : n1 ≤ n0) (hn : n0 ≤ w0.heap.size) (hb1 : b1 < n0) (hb2 : b2 < n0)
    (hc1 : w0.cell? ⟨b1, 0, none⟩ = some (.func (.func gf) #[] lb)) (hc2 : w0.cell? ⟨b2, 0, none⟩ = some (.string set))
    (eg : ∀ args w, (callFunc gf args).run Tryd.prog w = .ok (.enter gf args) w) (hys : ∀ y ∈ ys, y < 256) (hset : ∀ c, (Lib.indexByte set.data.toList c).toNat < 256) :
    SeqOK Tryd.prog 78 #[.pointer (some ⟨b1, 0, none⟩), .pointer (some ⟨b2, 0, none⟩)] (ys.map (numAt set)) n0 w0 := by
  refine ⟨hn, ?_⟩
  intro m l J Jx S W hW hJ hJx hS hY h0
  have hs1 := hW.size
  have d1 : W.cell? ⟨b1, 0, none⟩ = some (.func (.func gf) #[] lb) := (hW.cell (p := ⟨b1, 0, none⟩) hb1).trans hc1
  have d2 : W.cell? ⟨b2, 0, none⟩ = some (.string set) := (hW.cell (p := ⟨b2, 0, none⟩) hb2).trans hc2
  refine callsIn_of_wp_marks Tryd.func78 rfl trivial ?_ rfl
  simp only [Tryd.ntmps78, List.size_toArray, List.length_cons, List.length_nil, Nat.reduceAdd, Nat.reduceSub, Array.replicate_succ, Array.replicate_zero, List.push_toArray, List.append_toArray, List.nil_append, List.cons_append]
  have hd : Fence.wide.depth = none := rfl
  clear hc1 hc2
  have dd1 : (W.alloc (.cells #[.func (.yield l) #[] #[]] 57)).cell? ⟨b1, 0, none⟩ = some (.func (.func gf) #[] lb) := ((Below.refl n0 W).alloc (by omega) _).cell (p := ⟨b1, 0, none⟩) hb1 |>.trans d1
  gi_wp2
  have hE1 : Ext S S W (W.alloc (.cells #[.func (.yield l) #[] #[]] 57)) := Ext.of_below S ((Below.refl _ W).alloc (Nat.le_refl _) _)
  refine wpIn_rangeFunc_set (gf := gf) (lb := lb) rfl eg (hq.up hn1 hn) ((hW.alloc (by omega) _)) rfl
    (fun pre S2 W2 => J (pre.map (numAt set)) S2 W2) (fun c pre S2 W2 => c = .ret ∧ Jx (pre.map (numAt set)) S2 W2)
    ⟨fun x => hJ.same (x.map (numAt set)), fun x => hJ.lt (x.map (numAt set))⟩
    (fun c => ⟨fun x S W W2 h hs hk => ⟨h.1, hJx.same _ S W W2 h.2 hs hk⟩, fun x S W h => hJx.lt _ S W h.2⟩) S hS (hJ.alloc _ h0)
    (fun x => { tmps := #[.func (.yield l) #[] #[], .pointer (some ⟨b1, 0, none⟩), .pointer (some ⟨b2, 0, none⟩), .pointer (some ⟨W.heap.size, 0, none⟩), .int .u8 (x : Int), .func (.func gf) #[] lb, .int .u8 (x : Int), undef, undef, undef, undef, undef, undef, undef, undef], defers := [] }) ?assign ?body ?done ?stop
  case assign =>
    intro l x W K hK
    gi_wp2
    exact hK
  case body =>
    intro lr pre x S2 W2 hE hJ2 hpre
    have hx : x < 256 := hys x (by obtain ⟨t, rfl⟩ := hpre; simp)
    have e1 : W2.cell? ⟨W.heap.size, 0, none⟩ = some (.func (.yield l) #[] #[]) := (hE.cellb (by simp) (fun h => by have := hJ.lt _ _ _ h0 _ h; omega)).trans (Boxed.new W 57 _).cell
    have e2 : W2.cell? ⟨b2, 0, none⟩ = some (.string set) := by
      refine (hE.cellb (by simp; omega) (fun h => by have := hS _ h; omega)).trans ?_
      exact (World.cell?_of_block (w := W) (a := ⟨b2, 0, none⟩) (Below.heap_alloc W _ b2 (by omega))).trans d2
    have hyy := hY (pre.map (numAt set)) (numAt set x) S2 W2.drew (hE1.trans hE).drew (hJ.drew hJ2) (by have := prefix_map (numAt set) hpre; simpa using this)
    have HY := Lib.hid hyy
    clear hyy hY hys
    gi_wp2
    refine wpIn_region_any (by kernel_rfl) ?_
    change wpAnyIn _ _ _ _ _ _ _ _ _ (World.drew _)
    refine anyIn_unround lr rfl (by kernel_rfl) _ _ _ _ ?_
    refine anyIn_of_G (T := fun i => i < 3 || i == 4 || i == 5 || i == 7) (S := fun i w => i < 3 → w.cell? ⟨W.heap.size, 0, none⟩ = some (.func (.yield l) #[] #[]) ∧ w.cell? ⟨b2, 0, none⟩ = some (.string set)) _ _ _ _ ?_
    have HS : ∀ i : Nat, i < 3 → W2.drew.cell? ⟨W.heap.size, 0, none⟩ = some (.func (.yield l) #[] #[]) ∧ W2.drew.cell? ⟨b2, 0, none⟩ = some (.string set) := fun _ _ => ⟨e1, e2⟩
    have HSH := Lib.hid HS
    clear HS
    refine AnyG.take 0 (some 7) (.load 57 (.tmp 3)) (.func (.yield l) #[] #[]) rfl rfl (fun _ e => by cases e) (by kernel_rfl) (by kernel_rfl) (by kernel_rfl) (by kernel_rfl) rfl (fun _ _ _ h => h) (fun o ho w hw => by obtain ⟨q1, q2⟩ := hw (by decide); unfold execOp; rw [ho]; go_simp) (HSH.out 0) ?_
    simp only [Act.put, List.setIfInBounds_toArray, List.set_cons_succ, List.set_cons_zero]
    refine AnyG.take 1 (some 8) (.load 9 (.tmp 2)) (.string set) rfl rfl (fun _ e => by cases e) (by kernel_rfl) (by kernel_rfl) (by kernel_rfl) (by kernel_rfl) rfl (fun _ _ _ h => h) (fun o ho w hw => by obtain ⟨q1, q2⟩ := hw (by decide); unfold execOp; rw [ho]; go_simp) (HSH.out 1) ?_
    simp only [Act.put, List.setIfInBounds_toArray, List.set_cons_succ, List.set_cons_zero]
    refine AnyG.take 2 (some 9) (.move (.tmp 4)) (.int .u8 (x : Int)) rfl rfl (fun _ e => by cases e) (by kernel_rfl) (by kernel_rfl) (by kernel_rfl) (by kernel_rfl) rfl (fun _ _ _ h => h) (fun o ho w hw => by obtain ⟨q1, q2⟩ := hw (by decide); unfold execOp; rw [ho]; go_simp) (HSH.out 2) ?_
    simp only [Act.put, List.setIfInBounds_toArray, List.set_cons_succ, List.set_cons_zero]
    obtain ⟨p, hp⟩ : ∃ p, p = Lib.indexByte set.data.toList (Nat.toUInt8 x) := ⟨_, rfl⟩
    have hpn : (numAt set x : Int) = max 0 p := by rw [numAt, ← hp]; omega
    have hp2 : numAt set x < 256 := by rw [numAt]; exact hset _
    have hp3 : p ≤ 255 := by omega
    have HC : CallsIn Fence.wide (m - 1) Tryd.prog 79 #[.string set, .int .u8 (x : Int)] W2.drew fun e w2 => e = .returned (.int .i64 p) ∧ w2 = W2.drew := by
      refine callsIn_wide.2 ?_
      have := strings_IndexByte set (x : Int) W2.drew
      rw [hp]
      simpa using this
    refine AnyG.ready (rs := [3]) (by kernel_rfl) (by simp) (ReadyG.call (some 10) 79 #[.tmp 8, .tmp 9] #[9, 5] rfl rfl rfl (fun _ => trivial) #[.string set, .int .u8 (x : Int)] (by simp [Act.eval]) (enters_of Tryd.func79 (by kernel_rfl) rfl) _ HC rfl ?_ (fun c w' h => by cases h.1) (fun w' h => by cases h.1) ReadyG.nil)
    rintro v W3 ⟨he, rfl⟩
    refine ⟨fun i _ _ _ => HSH.out i, ?_⟩
    obtain rfl : v = .int .i64 p := by injection he
    simp only [Act.put, List.setIfInBounds_toArray, List.set_cons_succ, List.set_cons_zero]
    refine AnyG.takeB 4 (some 11) { callee := .builtin .max, args := #[.const (.int .i64 0), .tmp 10], argTypes := #[3, 3] } (.int .i64 (numAt set x : Int)) rfl rfl (by kernel_rfl) (by kernel_rfl) (by kernel_rfl) (by kernel_rfl) rfl (fun _ _ _ h => h) (fun o ho w => by unfold Oper.about; simp [ho, resolve, Target.leads]) (fun o ho w hw => by unfold execOp; rw [ho, hpn]; go_simp) (fun h => by omega) ?_
    simp only [Act.put, List.setIfInBounds_toArray, List.set_cons_succ, List.set_cons_zero]
    have hwr : IntKind.u8.wrap ((numAt set x : Nat) : Int) = (numAt set x : Int) := by rw [IntKind.wrap_u8]; omega
    obtain ⟨z, hz⟩ : ∃ z, z = numAt set x := ⟨_, rfl⟩
    rw [← hz] at hwr ⊢
    have HZ := Lib.hid hz
    clear hz hpn hp hp2 hp3
    refine AnyG.take 5 (some 12) (.convert 3 5 (.tmp 11)) (.int .u8 (z : Int)) rfl rfl (fun _ e => by cases e) (by kernel_rfl) (by kernel_rfl) (by kernel_rfl) (by kernel_rfl) rfl (fun _ _ _ h => h) (fun o ho w hw => by unfold execOp; rw [ho]; go_simp) (fun h => by omega) ?_
    simp only [Act.put, List.setIfInBounds_toArray, List.set_cons_succ, List.set_cons_zero]
    have HY2 := HY.out
    rw [← HZ.out] at HY2
    refine AnyG.ready (rs := [6]) (by kernel_rfl) (by simp) (ReadyG.yield (some 13) (.tmp 7) #[.tmp 12] #[5] rfl rfl rfl l rfl #[.int .u8 (z : Int)] (by simp [Act.eval]) _ HY2 rfl ?_ (fun c w' h => by obtain ⟨_, _, ⟨h, -⟩ | ⟨h, -⟩⟩ := h <;> cases h) (fun w' h => by obtain ⟨_, _, ⟨h, -⟩ | ⟨h, -⟩⟩ := h <;> cases h) ReadyG.nil)
    rintro v W3 ⟨S3, hE3, hv3⟩
    refine ⟨tight_of (f := 3) ?_, ?_⟩
    · kernel_rfl
    have hE4 := Lib.hid hE3.undrew
    rcases hv3 with ⟨he, hJ3⟩ | ⟨he, hJx3⟩
    · obtain rfl : v = .bool true := by injection he
      simp only [Act.put, List.setIfInBounds_toArray, List.set_cons_succ, List.set_cons_zero]
      refine AnyG.take 7 (some 14) (.unOp .not 4 (.tmp 13)) (.bool false) rfl rfl (fun _ e => by cases e) (by kernel_rfl) (by kernel_rfl) (by kernel_rfl) (by kernel_rfl) rfl (fun _ _ _ h => h) (fun o ho w hw => by unfold execOp; rw [ho]; go_simp) (fun h => by omega) ?_
      simp only [Act.put, List.setIfInBounds_toArray, List.set_cons_succ, List.set_cons_zero]
      refine AnyG.done (by kernel_rfl) ?_ _
      rw [HZ.out] at hJ3
      have HJ3 := Lib.hid hJ3
      clear hJ3 he
      gi_wp2
      exact ⟨S3, hE4.out, by simpa using HJ3.out⟩
    · obtain rfl : v = .bool false := by injection he
      simp only [Act.put, List.setIfInBounds_toArray, List.set_cons_succ, List.set_cons_zero]
      refine AnyG.take 7 (some 14) (.unOp .not 4 (.tmp 13)) (.bool true) rfl rfl (fun _ e => by cases e) (by kernel_rfl) (by kernel_rfl) (by kernel_rfl) (by kernel_rfl) rfl (fun _ _ _ h => h) (fun o ho w hw => by unfold execOp; rw [ho]; go_simp) (fun h => by omega) ?_
      simp only [Act.put, List.setIfInBounds_toArray, List.set_cons_succ, List.set_cons_zero]
      refine AnyG.done (by kernel_rfl) ?_ _
      rw [HZ.out] at hJx3
      have HJ3 := Lib.hid hJx3
      clear hJx3 he
      gi_wp2
      exact ⟨S3, hE4.out, rfl, by simpa using HJ3.out⟩
  case done =>
    rintro D S2 W2 hD hnD hE hJ2 hK
    have HE := Lib.hid ((hE1.trans hE).late (D := D) (by simp at hD; omega) (.deferred none))
    have HJ := Lib.hid (hJ.put D (.deferred none) hnD hJ2)
    clear hY hE1 hE hJ2
    gi_wp2
    refine ⟨by simp, .inl ⟨_, _, rfl, run_takeDeferred hK, ?_⟩⟩
    exact ⟨_, results_none rfl _ _ _, ⟨_, rfl⟩, S2, HE.out, .inl HJ.out⟩
  case stop =>
    rintro D c pre S2 W2 hD hnD hE hpre ⟨rfl, hJ2⟩ hK
    have HE := Lib.hid ((hE1.trans hE).late (D := D) (by simp at hD; omega) (.deferred none))
    have HJ := Lib.hid (hJx.put D (.deferred none) hnD hJ2)
    have HP := Lib.hid (prefix_map (numAt set) hpre)
    clear hY hE1 hE hJ2 hpre
    gi_wp2
    refine ⟨by simp, .inl ⟨_, _, rfl, run_takeDeferred hK, ?_⟩⟩
    exact ⟨_, results_none rfl _ _ _, ⟨_, rfl⟩, S2, HE.out, .inr ⟨_, HP.out, HJ.out⟩⟩
end Go.Proofs.YtdbbcngolcnniaaDoor
