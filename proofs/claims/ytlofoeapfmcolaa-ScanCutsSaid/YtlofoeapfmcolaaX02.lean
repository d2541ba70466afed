/- Several texts, one behind the other; each says by itself what it proves, and on what conditions. -/
import Derived.Test.YtlofoeapfmcolaaX01
import Derived.IntWalk
import Derived.Laws.Strings
/- What one operation does to a symbolic state. No condition. -/
namespace Go.Proofs.Ytlofoeapfmcolaa.E
open Go Go.RowKit
set_option linter.unusedVariables false
set_option linter.unusedSimpArgs false

structure Eff where
  obl : List Prop
  val : TV
  puts : List (Nat × Row)
  dels : List Nat

/-- A call, told by its contract: the rows that it reads, those that it writes, the one that it makes, those that are no more (their blocks may be the new row's). -/
structure CallI where
  f : FuncId
  args : Env → Array Value
  res : TV
  pre : List (Nat × Row)
  put : List (Nat × Row)
  made : Option Row
  dels : List Nat := []

/-- What a run is told: a call by its contract; whether a guard is met; how a value may be said otherwise. -/
inductive Hint where
  | call (c : CallI)
  | b (x : Bool)
  | val (x : TV)
  | ext (f : FuncId) (args : Array Value) (res : TV)
  | as (r k n c : Nat)
  | look (ty : TypeId) (m k : Value) (res : TV)
  | callW (c : CallI)
abbrev Hints := Nat → Option Hint
def hC (C : Hints) (id : Nat) : Option CallI := match C id with
  | some (.call c) => some c
  | some (.callW c) => some c
  | _ => none
def hX (C : Hints) (id : Nat) : Option (FuncId × Array Value × TV) := match C id with
  | some (.ext f a r) => some (f, a, r)
  | _ => none
/-- What a map has at a key. -/
def hL (C : Hints) (id : Nat) : Option (TypeId × Value × Value × TV) := match C id with
  | some (.look ty m k res) => some (ty, m, k, res)
  | _ => none
def hB (C : Hints) (id : Nat) : Option Bool := match C (1000000 + id) with
  | some (.b x) => some x
  | _ => none
/-- Is a value a slice of a row of which the place is known? -/
def hA (C : Hints) (id : Nat) : Option (Nat × Nat × Nat × Nat) := match C (3000000 + id) with
  | some (.as r k n c) => some (r, k, n, c)
  | _ => none
def hV (C : Hints) (id : Nat) : Option TV := match C (2000000 + id) with
  | some (.val x) => some x
  | _ => none

/-- What is behind an operation. -/
structure Post (ρ ρ' : Env) (id : Nat) (e : Eff) (w w' : World) : Prop where
  ok : e.val.ok
  env : ∀ r, r ≠ id → ρ' r = ρ r
  fr : Fr w ((e.puts.filter fun p => !(p.1 == id)).map (fun p => (ρ p.1).1) ++ e.dels.map fun r => (ρ r).1) w'
  puts : ∀ p ∈ e.puts, RowAt ρ' p.1 p.2 w' ∧ pok p.2.ps
  new : ∀ p ∈ e.puts, p.1 = id → w.heap.size ≤ (ρ' id).1 ∨ ∃ r ∈ e.dels, (ρ' id).1 = (ρ r).1
theorem post_pure {ρ : Env} {id : Nat} {x : TV} {w : World} {ob : List Prop} (h : x.ok) : Post ρ ρ id ⟨ob, x, [], []⟩ w w :=
  ⟨h, fun _ _ => rfl, Fr.refl _ _, (fun p hp => by cases hp), (fun p hp => by cases hp)⟩
def setE (ρ : Env) (id : Nat) (x : Blk) : Env := fun r => bif Nat.beq r id then x else ρ r
theorem setE_same (ρ : Env) (id : Nat) (x : Blk) : setE ρ id x id = x := by simp [setE]
theorem setE_ne (ρ : Env) {id r : Nat} (x : Blk) (h : r ≠ id) : setE ρ id x r = ρ r := by
  unfold setE
  cases hb : Nat.beq r id with
  | true => exact absurd (Nat.eq_of_beq_eq_true hb) h
  | false => rfl
theorem post_new {ρ : Env} {id : Nat} {w : World} {ob : List Prop} {ps : List Pc} {A : Array Value} {t : TypeId} {x : TV} (hx : x.ok) (hp : pok ps) (hi : id ∉ pids ps) (hA : A.toList = lst ρ ps) :
    Post ρ (setE ρ id ⟨w.heap.size, 0, 0⟩) id ⟨ob, x, [(id, ⟨ps, true, none⟩)], []⟩ w (w.alloc (.cells A t)) := by
  refine ⟨hx, fun r hr => setE_ne ρ _ hr, Fr.of_below ((Below.refl _ w).alloc (Nat.le_refl _) _) _, fun p hp2 => ?_, fun p hp2 _ => by rw [setE_same]; exact .inl (Nat.le_refl _)⟩
  simp only [List.mem_singleton] at hp2
  subst hp2
  refine ⟨⟨?_, fun j v hv => ?_, (fun e k h => by cases h), by rw [setE_same]; exact ⟨A, t, (0, 0), Go.heap_alloc_new w _⟩⟩, hp⟩
  · rw [setE_same]; simp
  · rw [setE_same]
    simp only at hv
    rw [lst_congr (σ := ρ) (fun r hr => setE_ne ρ _ (by rintro rfl; exact hi hr)), ← hA] at hv
    refine ⟨?_, fun _ => frozen_alloc_new⟩
    rw [show (0 : Nat) + j = j by omega, cell_alloc_new]
    simpa using hv

/-- Rows that a call may write or take lie in blocks of their own. -/
def PreDs (ρ : Env) (pre : List (Nat × Row)) : Prop := ∀ p ∈ pre, ∀ q ∈ pre, p.1 ≠ q.1 → p.2.w = true → (ρ p.1).1 ≠ (ρ q.1).1
def CallOk (P : Program) (id : Nat) (c : CallI) : Prop :=
  c.res.ok ∧ (∀ p ∈ c.put, p.1 ≠ id) ∧ (∀ args w, (callFunc c.f args).run P w = .ok (.enter c.f args) w) ∧ ∀ (ρ : Env) (w : World), (∀ p ∈ c.pre, RowAt ρ p.1 p.2 w) → PreDs ρ c.pre →
    Calls P c.f (c.args ρ) w fun e w' => ∃ ρ', e = .returned (c.res.val ρ') ∧ Post ρ ρ' id ⟨[], c.res, c.put ++ (c.made.map fun r => (id, r)).toList, c.dels⟩ w w'

/-- The same in one world. -/
def CallAt (P : Program) (id : Nat) (c : CallI) (w : World) (ρ : Env) : Prop :=
  c.res.ok ∧ (∀ p ∈ c.put, p.1 ≠ id) ∧ (∀ args w, (callFunc c.f args).run P w = .ok (.enter c.f args) w) ∧ ((∀ p ∈ c.pre, RowAt ρ p.1 p.2 w) → PreDs ρ c.pre →
    Calls P c.f (c.args ρ) w fun e w' => ∃ ρ', e = .returned (c.res.val ρ') ∧ Post ρ ρ' id ⟨[], c.res, c.put ++ (c.made.map fun r => (id, r)).toList, c.dels⟩ w w')
theorem callAt {P : Program} {id : Nat} {c : CallI} (h : CallOk P id c) (w : World) (ρ : Env) : CallAt P id c w ρ := ⟨h.1, h.2.1, h.2.2.1, h.2.2.2 ρ w⟩

def HintOk (P : Program) (id : Nat) : Hint → Prop
  | .call c => CallOk P id c
  | .ext f args res => res.ok ∧ ∀ (ρ : Env) (w : World), (callFunc f args).run P w = .ok (.value (res.val ρ)) w
  | .look .. => False
  | .callW _ => False
  | _ => True
/-- The same of a run that began with a world: what a map of it has is told of all that keep it. -/
def HintAt (P : Program) (w0 : World) (wr : Bs) (id : Nat) : Hint → Prop
  | .look ty m k res => res.ok ∧ ∀ (ρ : Env) (w : World), KeepsOthers w0 w → (Instr.lookup ty m k true).run P w = .ok (res.val ρ) w
  | .callW c => ∀ w ρ, KeepsOthers w0 w → Fr w0 wr.l w → (∀ r, (r < 1000 ∨ r ∈ wr.k) → ρ r = wr.e r) → CallAt P id c w ρ
  | h => HintOk P id h
theorem hintAt {P : Program} {w0 : World} {wr : Bs} {id : Nat} {h : Hint} (H : HintOk P id h) : HintAt P w0 wr id h := by
  cases h with
  | look ty m k res => exact H.elim
  | callW c => exact H.elim
  | _ => exact H
theorem hintOk_ext {P : Program} {w0 : World} {wr : Bs} {C : Hints} (h : ∀ id c, C id = some c → HintAt P w0 wr id c) {id : Nat} {f : FuncId} {args : Array Value} {res : TV} (hc : hX C id = some (f, args, res)) : res.ok ∧ ∀ (ρ : Env) (w : World), (callFunc f args).run P w = .ok (.value (res.val ρ)) w := by
  unfold hX at hc
  split at hc
  · rename_i f2 a2 r2 h2
    cases hc
    exact h id _ h2
  · cases hc
theorem hintOk_call {P : Program} {w0 : World} {wr : Bs} {C : Hints} (h : ∀ id c, C id = some c → HintAt P w0 wr id c) {id : Nat} {c : CallI} (hc : hC C id = some c) {w : World} {ρ : Env} (hw : KeepsOthers w0 w) (hf : Fr w0 wr.l w) (he : ∀ r, (r < 1000 ∨ r ∈ wr.k) → ρ r = wr.e r) : CallAt P id c w ρ := by
  unfold hC at hc
  split at hc
  · rename_i c2 h2
    cases hc
    exact callAt (h id _ h2) w ρ
  · rename_i c2 h2
    cases hc
    exact h id _ h2 w ρ hw hf he
  · cases hc
theorem hintOk_look {P : Program} {w0 : World} {wr : Bs} {C : Hints} (h : ∀ id c, C id = some c → HintAt P w0 wr id c) {id : Nat} {ty : TypeId} {m k : Value} {res : TV} (hc : hL C id = some (ty, m, k, res)) : res.ok ∧ ∀ (ρ : Env) (w : World), KeepsOthers w0 w → (Instr.lookup ty m k true).run P w = .ok (res.val ρ) w := by
  unfold hL at hc
  split at hc
  · rename_i ty2 m2 k2 r2 h2
    cases hc
    exact h id _ h2
  · cases hc

def isRow : TypeDesc → Bool
  | .struct _ | .array _ _ => true
  | _ => false
/-- Size, and whether it is a struct or an array. -/
def tyI (P : Program) (t : TypeId) : Option (Nat × Bool) :=
  match P.underlying t, P.info? t with
  | some d, some i => some (i.size, isRow d)
  | _, _ => none
theorem tyI_ok {P : Program} {t : TypeId} {sz : Nat} {ag : Bool} (h : tyI P t = some (sz, ag)) : ∃ d i, P.underlying t = some d ∧ P.info? t = some i ∧ i.size = sz ∧ isRow d = ag := by
  unfold tyI at h
  split at h
  · rename_i d i h1 h2
    cases h
    exact ⟨d, i, h1, h2, rfl, rfl⟩
  · cases h
theorem run_isAgg {P : Program} {t : TypeId} {d : TypeDesc} (h : P.underlying t = some d) (w : World) : (isAgg t).run P w = .ok (isRow d) w := by
  unfold isAgg
  rw [Sem.run_bind, run_underlying h w]
  cases d <;> rfl

/-! ### load -/

theorem getOk_load {ρ : Env} {P : Program} {t : TypeId} {sz : Nat} {ag : Bool} {r b i k j : Nat} {row : Row} {w : World} {x : SV} (ht : tyI P t = some (sz, ag)) (hr : RowAt ρ r row w) (h : GetOk ρ row.ps (b + i * k + j) sz ag x) :
    (loadVar t ⟨(ρ r).1, (ρ r).2 + (b + i * k + j), none⟩).run P w = .ok (x.val ρ) w := by
  obtain ⟨d, ti, h1, h2, h3, h4⟩ := tyI_ok ht
  have hc : ∀ q v, (x.cellL ρ)[q]? = some v → w.cell? ⟨(ρ r).1, (ρ r).2 + (b + i * k + j) + q, none⟩ = some v := by
    intro q v hv
    have := (hr.2.1 _ v (h.has.get hv)).1
    rw [show (ρ r).2 + (b + i * k + j) + q = (ρ r).2 + (b + i * k + j + q) by omega]
    exact this
  cases ag with
  | true =>
    obtain ⟨qs, rfl, hq⟩ := h.agg rfl
    have hl : (loadCells ⟨(ρ r).1, (ρ r).2 + (b + i * k + j), none⟩ (lst ρ qs).length).run P w = .ok (lst ρ qs).toArray w :=
      run_loadCells_list (P := P) w _ (lst ρ qs) (fun q v hv => by rw [addr_add]; exact hc q v hv)
    rw [hq, ← h3] at hl
    unfold loadVar
    rw [Sem.run_bind, run_isAgg h1, h4]
    simp only [Result.andThen_ok, if_true, sizeOf, typeInfo, Sem.run_bind, run_program, h2, Sem.run_pure, hl]
    show Result.ok (Value.agg _) w = .ok (.agg (cells ρ qs)) w
    congr 2
    apply Array.ext'
    rw [cells_list]
  | false =>
    obtain ⟨l, rfl⟩ := h.one rfl
    have := hc 0 (l.val ρ) rfl
    rw [Nat.add_zero] at this
    unfold loadVar
    rw [Sem.run_bind, run_isAgg h1, h4]
    simp [load, Sem.run, this, SV.val]

/-! ### store -/

def sumS : List Pc → Nat
  | [] => 0
  | p :: ps => p.size + sumS ps
theorem sumS_ok (ρ : Env) : ∀ {ps : List Pc}, pok ps → (lst ρ ps).length = sumS ps
  | [], _ => rfl
  | p :: ps, h => by rw [lst_cons, List.length_append, Pc.len (pok_cons.1 h).1, sumS_ok ρ (pok_cons.1 h).2]; rfl
theorem pcs_ok {ρ : Env} {x : SV} {ps : List Pc} (h : x.pcs = some ps) (hx : x.ok) : pok ps ∧ (x.val ρ).cells.toList = lst ρ ps ∧ pids ps = x.ids := by
  cases x with
  | lf x =>
    cases h
    refine ⟨fun p hp => by simp only [List.mem_singleton] at hp; subst hp; exact hx, ?_, by simp [pids, Pc.ids, SV.ids]⟩
    have h1 := Lf.one_val (ρ := ρ) hx
    show (x.val ρ).cells.toList = [x.val ρ]
    generalize x.val ρ = v at *
    cases v <;> first | rfl | cases h1
  | agg qs =>
    cases h
    exact ⟨hx, cells_list ρ ps, rfl⟩
  | un => cases h
/-- A row of which cells were written. -/
theorem row_wrote {ρ : Env} {r off : Nat} {row : Row} {ps' : List Pc} {vs : List Value} {w w' : World} (hr : RowAt ρ r row w) (hw : row.w = true) (hrep : Repl (lst ρ row.ps) (lst ρ ps') vs off) (hwr : Wrote (ρ r).1 ((ρ r).2 + off) vs w w') :
    Fr w [(ρ r).1] w' ∧ RowAt ρ r ⟨ps', true, row.cp⟩ w' := by
  have hlen := hrep.len
  obtain ⟨X, O, Y, e1, e2, e3, e4⟩ := hrep
  have hcell : ∀ q v, (lst ρ row.ps)[q]? = some v → w.cell? ⟨(ρ r).1, (ρ r).2 + q, none⟩ = some v ∧ w.frozen? ⟨(ρ r).1, (ρ r).2 + q, none⟩ = false := fun q v hv => ⟨(hr.2.1 q v hv).1, (hr.2.1 q v hv).2 hw⟩
  refine ⟨⟨hwr.os, hwr.tape, hwr.output, by rw [hwr.size]; exact Nat.le_refl _, fun q _ hn => hwr.block q (by simpa using hn)⟩, ⟨by rw [hwr.size]; exact hr.1, fun q v hv => ?_, fun e k hc => ?_, ?_⟩⟩
  · simp only at hv
    refine ⟨?_, fun _ => ?_⟩
    · rw [e3] at hv
      by_cases c1 : q < X.length
      · rw [List.append_assoc, List.getElem?_append_left c1] at hv
        rw [hwr.out _ (.inl (by omega))]
        exact (hcell q v (by rw [e1, List.append_assoc, List.getElem?_append_left c1]; exact hv)).1
      · by_cases c2 : q < X.length + vs.length
        · rw [List.append_assoc, List.getElem?_append_right (by omega), List.getElem?_append_left (by omega)] at hv
          have := hwr.inn (q - X.length) v hv
          rw [show (ρ r).2 + off + (q - X.length) = (ρ r).2 + q by omega] at this
          exact this
        · rw [List.getElem?_append_right (by simp; omega)] at hv
          rw [hwr.out _ (.inr (by omega))]
          refine (hcell q v ?_).1
          rw [e1, List.getElem?_append_right (by simp; omega)]
          simp only [List.length_append] at hv ⊢
          rw [e2]; exact hv
    · rw [hwr.frozen]
      have hlt : q < (lst ρ row.ps).length := by
        have := (List.getElem?_eq_some_iff.1 hv).1
        rw [hlen] at this; exact this
      exact (hcell q _ (List.getElem?_eq_getElem hlt)).2
  · obtain ⟨k1, k2, k3, cur, k4, k5⟩ := hr.2.2.1 e k hc
    obtain ⟨cur', m1, m2⟩ := hwr.shape cur e _ k4
    exact ⟨k1, k2, by rw [hlen]; exact k3, cur', m1, by rw [m2, k5]⟩
  · obtain ⟨cur, t2, fz, k4⟩ := hr.2.2.2
    obtain ⟨cur', m1, m2⟩ := hwr.shape cur t2 fz k4
    exact ⟨cur', t2, fz, m1⟩
theorem store_ok {ρ : Env} {P : Program} {t : TypeId} {sz : Nat} {ag : Bool} {r b i k j : Nat} {row : Row} {w : World} {x : SV} {new ps' : List Pc} {ob : List Prop} (ht : tyI P t = some (sz, ag)) (hr : RowAt ρ r row w) (hrow : pok row.ps) (hw : row.w = true)
    (hx : x.ok) (hn : x.pcs = some new) (hs : Nat.beq (sumS new) sz = true) (hp : putP row.ps b i k j sz new = some (ob, ps')) (ho : all ob) :
    ∃ w', (storeVar t ⟨(ρ r).1, (ρ r).2 + (b + i * k + j), none⟩ (x.val ρ)).run P w = .ok () w' ∧ Fr w [(ρ r).1] w' ∧ RowAt ρ r ⟨ps', true, row.cp⟩ w' ∧ pok ps' := by
  obtain ⟨d, ti, h1, h2, h3, h4⟩ := tyI_ok ht
  obtain ⟨g1, g2, g3⟩ := pcs_ok (ρ := ρ) hn hx
  have hl : (lst ρ new).length = sz := by rw [sumS_ok ρ g1]; exact Nat.eq_of_beq_eq_true hs
  have hput := putP_ok (ρ := ρ) g1 hl hrow hp ho
  obtain ⟨X, O, Y, e1, e2, e3, e4⟩ := hput.repl
  have hcell : ∀ q v, (lst ρ row.ps)[q]? = some v → w.cell? ⟨(ρ r).1, (ρ r).2 + q, none⟩ = some v ∧ w.frozen? ⟨(ρ r).1, (ρ r).2 + q, none⟩ = false := fun q v hv => ⟨(hr.2.1 q v hv).1, (hr.2.1 q v hv).2 hw⟩
  obtain ⟨w', hrun, hwr⟩ := storeCells_ok P (ρ r).1 ((ρ r).2 + (b + i * k + j)) (lst ρ new) 0 w (fun q hq => by
    have hlt : b + i * k + j + q < (lst ρ row.ps).length := by rw [e1]; simp; omega
    obtain ⟨c1, c2⟩ := hcell (b + i * k + j + q) _ (List.getElem?_eq_getElem hlt)
    rw [show (ρ r).2 + (b + i * k + j) + 0 + q = (ρ r).2 + (b + i * k + j + q) by omega]
    exact ⟨by rw [c1]; rfl, c2⟩) (lst_one g1)
  rw [Nat.add_zero] at hwr
  obtain ⟨f1, f2⟩ := row_wrote hr hw hput.repl hwr
  refine ⟨w', ?_, f1, f2, hput.ok⟩
  · have hcs : (x.val ρ).cells.size = ti.size := by rw [← Array.length_toList, g2, hl, h3]
    unfold storeVar
    simp only [sizeOf, typeInfo, Sem.run_bind, run_program, h2, Sem.run_pure, Result.andThen_ok]
    simp only [hcs, ne_eq, not_true_eq_false, if_false, Sem.run_bind, Sem.run_pure, Result.andThen_ok, g2]
    exact hrun
end Go.Proofs.Ytlofoeapfmcolaa.E
/- The operations on values: arithmetic, comparisons, texts. No condition. -/
namespace Go.Proofs.Ytlofoeapfmcolaa.E
open Go Go.RowKit
set_option linter.unusedVariables false
set_option linter.unusedSimpArgs false

def lb (s : ByteArray) : List UInt8 := s.data.toList
def bl (l : List UInt8) : ByteArray := ⟨l.toArray⟩
theorem lb_bl (l : List UInt8) : lb (bl l) = l := rfl
theorem bl_lb (s : ByteArray) : bl (lb s) = s := rfl
abbrev VR := Option (List Prop × Value)
def inI (n : Int) : Prop := -9223372036854775808 ≤ n ∧ n ≤ 9223372036854775807

/-- The result of an arithmetic operation; of int the sums are told bare, with the bound as a duty. -/
def wrapV (k : IntKind) (n : Int) : VR :=
  match k with
  | .i64 => some ([inI n], .int .i64 n)
  | k => some ([], .int k (k.wrap n))
theorem wrapV_ok {k : IntKind} {n : Int} {ob : List Prop} {v : Value} (h : wrapV k n = some (ob, v)) (ho : all ob) : v = .int k (k.wrap n) := by
  unfold wrapV at h
  split at h
  · cases h; rw [IntWalk.i64_in n ho.1]
  · cases h; rfl

def binI (op : BinOp) (k : IntKind) (a b : Int) : VR :=
  match op with
  | .add => wrapV k (a + b)
  | .sub => wrapV k (a - b)
  | .mul => wrapV k (a * b)
  | .quo => some ([0 ≤ a ∧ 0 < b, k.wrap (a / b) = a / b], .int k (a / b))
  | .rem => some ([0 ≤ a ∧ 0 < b], .int k (a % b))
  | .and => some ([], .int k (bits .and k a b))
  | .or => some ([], .int k (bits .or k a b))
  | .xor => some ([], .int k (bits .xor k a b))
  | .andNot => some ([], .int k (bits .andNot k a b))
  | .eql => some ([], .bool (a == b))
  | .neq => some ([], .bool (a != b))
  | .lss => some ([], .bool (decide (a < b)))
  | .leq => some ([], .bool (decide (a ≤ b)))
  | .gtr => some ([], .bool (decide (a > b)))
  | .geq => some ([], .bool (decide (a ≥ b)))
  | _ => none
def shI (op : BinOp) (k : IntKind) (a : Int) (yk : IntKind) (b : Int) : VR :=
  match op with
  | .shl => some ([0 ≤ b ∧ b ≤ k.bits], .int k (k.wrap (a * 2 ^ b.toNat)))
  | .shr => some ([0 ≤ b ∧ b ≤ k.bits], .int k (a / 2 ^ b.toNat))
  | _ => none
def strV (op : BinOp) (a b : ByteArray) : VR :=
  match op with
  | .add => some ([((lb a).length : Int) + (lb b).length ≤ 9223372036854775807], .string (bl (lb a ++ lb b)))
  | .eql => some ([], .bool (lb a == lb b))
  | .neq => some ([], .bool !(lb a == lb b))
  | .lss => some ([], .bool (Op.bytesLess (lb a) (lb b)))
  | .leq => some ([], .bool (Op.bytesLess (lb a) (lb b) || lb a == lb b))
  | .gtr => some ([], .bool !(Op.bytesLess (lb a) (lb b) || lb a == lb b))
  | .geq => some ([], .bool !(Op.bytesLess (lb a) (lb b)))
  | _ => none
def binV (op : BinOp) (a b : Value) : VR :=
  match a, b with
  | .int k x, .int k2 y => match shI op k x k2 y with
    | some r => some r
    | none => if k = k2 then binI op k x y else none
  | .string x, .string y => strV op x y
  | _, _ => none

theorem run_eqGuard_int (op : BinOp) (t : TypeId) (x y : Operand) (k k2 : IntKind) (a b : Int) (P : Program) (w : World) : (eqGuard op t x y (.int k a) (.int k2 b)).run P w = .ok () w := by
  unfold eqGuard
  cases op <;> simp
theorem run_eqGuard_str (op : BinOp) (t : TypeId) (x y : Operand) (a b : ByteArray) (P : Program) (w : World) : (eqGuard op t x y (.string a) (.string b)).run P w = .ok () w := by
  unfold eqGuard
  cases op <;> simp
theorem binI_ok {op : BinOp} {t : TypeId} {k : IntKind} {a b : Int} {P : Program} {w : World} {ob : List Prop} {v : Value} (h : binI op k a b = some (ob, v)) (ho : all ob) : (binOp op t (.int k a) (.int k b)).run P w = .ok v w ∧ v.oneCell' = true := by
  have hw : ∀ n, wrapV k n = some (ob, v) → v = .int k (k.wrap n) := fun n h => wrapV_ok h ho
  cases op
  case add => rw [hw _ h]; exact ⟨by simp [binOp, Op.intArith], rfl⟩
  case sub => rw [hw _ h]; exact ⟨by simp [binOp, Op.intArith], rfl⟩
  case mul => rw [hw _ h]; exact ⟨by simp [binOp, Op.intArith], rfl⟩
  case quo =>
    cases h
    obtain ⟨⟨h1, h2⟩, h3, -⟩ := ho
    refine ⟨?_, rfl⟩
    rw [binOp_quo]
    simp only [Op.intDiv, if_neg (show ¬ b = 0 by omega)]
    rw [Int.tdiv_eq_ediv_of_nonneg h1, h3]; rfl
  case rem =>
    cases h
    obtain ⟨⟨h1, h2⟩, -⟩ := ho
    refine ⟨?_, rfl⟩
    rw [binOp_rem]
    simp only [Op.intDiv, if_neg (show ¬ b = 0 by omega)]
    rw [Int.tmod_eq_emod_of_nonneg h1]; rfl
  case shl => cases h
  case shr => cases h
  all_goals (cases h; exact ⟨by simp [binOp, Op.intCmp, intBits_and, intBits_or, intBits_xor, intBits_andNot], rfl⟩)
theorem shI_ok {op : BinOp} {t : TypeId} {k yk : IntKind} {a b : Int} {P : Program} {w : World} {ob : List Prop} {v : Value} (h : shI op k a yk b = some (ob, v)) (ho : all ob) : (binOp op t (.int k a) (.int yk b)).run P w = .ok v w ∧ v.oneCell' = true := by
  unfold shI at h
  split at h
  · cases h; rw [binOp_shl, shift_shl k yk a b ho.1.1 ho.1.2]; exact ⟨rfl, rfl⟩
  · cases h; rw [binOp_shr, shift_shr k yk a b ho.1.1 ho.1.2]; exact ⟨rfl, rfl⟩
  · cases h
theorem size_lb (s : ByteArray) : s.size = (lb s).length := rfl
theorem append_bl (a b : ByteArray) : a ++ b = bl (lb a ++ lb b) := by
  apply ByteArray.ext
  rw [ByteArray.data_append]
  apply Array.ext'
  simp [bl, lb]
theorem strV_ok {op : BinOp} {t : TypeId} {a b : ByteArray} {P : Program} {w : World} {ob : List Prop} {v : Value} (h : strV op a b = some (ob, v)) (ho : all ob) : (binOp op t (.string a) (.string b)).run P w = .ok v w ∧ v.oneCell' = true := by
  unfold strV at h
  split at h
  case h_1 =>
    cases h
    refine ⟨?_, rfl⟩
    rw [binOp_string_add]
    have h1 : ((lb a).length : Int) + (lb b).length ≤ 9223372036854775807 := ho.1
    have : ¬ ((a.size + b.size : Nat) : Int) > IntKind.i64.max := by
      rw [size_lb, size_lb]
      have e : IntKind.i64.max = 9223372036854775807 := rfl
      rw [e]; omega
    simp only [Op.stringOp, if_neg this]
    rw [append_bl]; rfl
  all_goals (cases h <;> exact ⟨by simp [binOp, Op.stringOp, ByteArray.toList_eq, lb], rfl⟩)
theorem binV_ok {op : BinOp} {t : TypeId} {x y : Operand} {a b : Value} {P : Program} {w : World} {ob : List Prop} {v : Value} (h : binV op a b = some (ob, v)) (ho : all ob) :
    (do eqGuard op t x y a b; binOp op t a b).run P w = .ok v w ∧ v.oneCell' = true := by
  unfold binV at h
  split at h
  · rename_i k p k2 q
    rw [Sem.run_bind, run_eqGuard_int]
    simp only [Result.andThen_ok]
    cases hs : shI op k p k2 q with
    | some r => rw [hs] at h; cases h; exact shI_ok hs ho
    | none =>
      rw [hs] at h
      simp only at h
      split at h
      · rename_i e; subst e; exact binI_ok h ho
      · cases h
  · rw [Sem.run_bind, run_eqGuard_str]
    exact strV_ok h ho
  · cases h

def unV (op : UnOp) (a : Value) : VR :=
  match op, a with
  | .neg, .int k n => wrapV k (0 - n)
  | .xor, .int k n => some ([], .int k (bits .xor k (if k.signed then -1 else k.max) n))
  | .not, .bool b => some ([], .bool !b)
  | _, _ => none
theorem unV_ok {op : UnOp} {a : Value} {P : Program} {w : World} {ob : List Prop} {v : Value} (h : unV op a = some (ob, v)) (ho : all ob) : (Op.unary op a).run P w = .ok v w ∧ v.oneCell' = true := by
  unfold unV at h
  split at h
  · rw [wrapV_ok h ho]; exact ⟨rfl, rfl⟩
  · cases h; exact ⟨rfl, rfl⟩
  · cases h; exact ⟨rfl, rfl⟩
  · cases h

/-- Conversions of integers: to a wider kind the number stays, with the bound as a duty. -/
def widens (s d : IntKind) : Bool :=
  match s, d with
  | .u8, .i64 | .u8, .u64 | .u8, .u32 | .u32, .u64 | .u32, .i64 | .i32, .i64 | .u16, .u32 | .u8, .u16 | .u16, .u64 | .u16, .i64 => true
  | .i64, .i64 | .u64, .u64 | .u8, .u8 | .u32, .u32 | .i32, .i32 => true
  | _, _ => false
def convV (P : Program) (src dst : TypeId) (a : Value) : VR :=
  match P.underlying src, P.underlying dst, a with
  | some _, some (.int k), .int s n => bif widens s k then some ([k.wrap n = n], .int k n) else some ([], .int k (k.wrap n))
  | some .string, some .string, .string s => some ([], .string s)
  | _, _, _ => none
theorem convV_ok {P : Program} {src dst : TypeId} {a : Value} {w : World} {ob : List Prop} {v : Value} (h : convV P src dst a = some (ob, v)) (ho : all ob) : (convert src dst a).run P w = .ok v w ∧ v.oneCell' = true := by
  unfold convV at h
  split at h
  · rename_i d k s n h1 h2
    have hr : (convert src dst (.int s n)).run P w = .ok (.int k (k.wrap n)) w := by simp [convert, run_underlying h1, run_underlying h2, Conv.intToInt]
    cases hw : widens s k with
    | true => rw [hw] at h; cases h; rw [hr, ho.1]; exact ⟨rfl, rfl⟩
    | false => rw [hw] at h; cases h; exact ⟨hr, rfl⟩
  · rename_i s h1 h2
    cases h
    exact ⟨by simp [convert, run_underlying h1, run_underlying h2], rfl⟩
  · cases h

/-- A byte of a text. -/
def idxStr (P : Program) (t : TypeId) (s : ByteArray) (n : Int) : VR :=
  match P.underlying t with
  | some .string => some ([0 ≤ n ∧ n < (lb s).length], .int .u8 (((lb s).getD n.toNat 0).toNat : Int))
  | _ => none
theorem idxStr_ok {P : Program} {t : TypeId} {s : ByteArray} {k : IntKind} {n : Int} {w : World} {ob : List Prop} {v : Value} (h : idxStr P t s n = some (ob, v)) (ho : all ob) : (Instr.index t (.string s) (.int k n)).run P w = .ok v w ∧ v.oneCell' = true := by
  unfold idxStr at h
  split at h
  · rename_i h1
    cases h
    obtain ⟨⟨h2, h3⟩, -⟩ := ho
    rw [← size_lb] at h3
    refine ⟨?_, rfl⟩
    rw [run_index_string w t s k n h1, dif_pos ⟨h2, h3⟩]
    congr 4
    have : n.toNat < (lb s).length := by rw [← size_lb]; omega
    rw [List.getD_eq_getElem?_getD, List.getElem?_eq_getElem this]
    rfl
  · cases h

/-- A piece of a text. -/
def sliStr (P : Program) (t : TypeId) (s : ByteArray) (lo hi : Option Int) : VR :=
  match P.underlying t, lo, hi with
  | some .string, none, none => some ([], .string s)
  | some .string, some l, none => some ([0 ≤ l ∧ l ≤ (lb s).length], .string (bl ((lb s).drop l.toNat)))
  | some .string, none, some h => some ([0 ≤ h ∧ h ≤ (lb s).length], .string (bl ((lb s).take h.toNat)))
  | some .string, some l, some h => some ([0 ≤ h ∧ h ≤ (lb s).length, 0 ≤ l ∧ l ≤ h], .string (bl (((lb s).take h.toNat).drop l.toNat)))
  | _, _, _ => none
theorem extract_bl (s : ByteArray) (l h : Nat) : s.extract l h = bl (((lb s).take h).drop l) := by
  apply ByteArray.ext
  rw [ByteArray.data_extract]
  apply Array.ext'
  simp [bl, lb, List.extract, List.drop_take]
theorem run_sliceBound {k : IntKind} {i : Int} {y : Nat} {c : BoundsCode} {P : Program} {w : World} (h : 0 ≤ i ∧ i ≤ y) : (Instr.sliceBound (.int k i) y c).run P w = .ok i.toNat w := by
  simp [Instr.sliceBound, asIntOf, h]
def iv (k : IntKind) : Option Int → Option Value → Prop
  | none, none => True
  | some n, some v => ∃ k, v = .int k n
  | _, _ => False
theorem sliStr_ok {P : Program} {t : TypeId} {s : ByteArray} {lo hi : Option Int} {vl vh : Option Value} (hl : iv .i64 lo vl) (hh : iv .i64 hi vh) {w : World} {ob : List Prop} {v : Value} (h : sliStr P t s lo hi = some (ob, v)) (ho : all ob) :
    (Instr.sliceAt t (.string s) vl vh none).run P w = .ok v w ∧ v.oneCell' = true := by
  have hu : P.underlying t = some .string := by
    unfold sliStr at h
    split at h <;> first | assumption | cases h
  have hred : (Instr.sliceAt t (.string s) vl vh none).run P w = (Instr.slice t (.string s) vl vh none).run P w := by
    simp [Instr.sliceAt, run_underlying hu]
  rw [hred]
  unfold sliStr at h
  rw [hu] at h
  cases lo with
  | none =>
    cases hi with
    | none =>
      cases vl with
      | some _ => cases hl
      | none =>
        cases vh with
        | some _ => cases hh
        | none =>
          cases h
          refine ⟨?_, rfl⟩
          simp only [Instr.slice, Sem.run_bind, run_underlying hu, Result.andThen_ok, Option.isSome, Instr.sliceBounds, Sem.run_pure, Bool.false_eq_true, if_false]
          rw [extract_bl, List.drop_zero, size_lb, List.take_length, bl_lb]
    | some n =>
      cases vl with
      | some _ => cases hl
      | none =>
        cases vh with
        | none => cases hh
        | some vh =>
          obtain ⟨k, rfl⟩ := hh
          cases h
          have := ho.1
          rw [← size_lb] at this
          refine ⟨?_, rfl⟩
          simp only [Instr.slice, Sem.run_bind, run_underlying hu, Result.andThen_ok, Option.isSome, Instr.sliceBounds, Sem.run_pure, Bool.false_eq_true, if_false, run_sliceBound this]
          rw [extract_bl, List.drop_zero]
  | some m =>
    cases vl with
    | none => cases hl
    | some vl =>
      obtain ⟨kl, rfl⟩ := hl
      cases hi with
      | none =>
        cases vh with
        | some _ => cases hh
        | none =>
          cases h
          have := ho.1
          rw [← size_lb] at this
          refine ⟨?_, rfl⟩
          simp only [Instr.slice, Sem.run_bind, run_underlying hu, Result.andThen_ok, Option.isSome, Instr.sliceBounds, Sem.run_pure, Bool.false_eq_true, if_false, run_sliceBound this]
          rw [extract_bl, size_lb, List.take_length]
      | some n =>
        cases vh with
        | none => cases hh
        | some vh =>
          obtain ⟨kh, rfl⟩ := hh
          cases h
          obtain ⟨h1, h2, -⟩ := ho
          rw [← size_lb] at h1
          refine ⟨?_, rfl⟩
          have h3 : 0 ≤ m ∧ m ≤ (n.toNat : Int) := by omega
          simp only [Instr.slice, Sem.run_bind, run_underlying hu, Result.andThen_ok, Option.isSome, Instr.sliceBounds, Sem.run_pure, Bool.false_eq_true, if_false, run_sliceBound h1, run_sliceBound h3]
          rw [extract_bl]
end Go.Proofs.Ytlofoeapfmcolaa.E
/- What each operation does to a symbolic state, and that it does. No condition. -/
namespace Go.Proofs.Ytlofoeapfmcolaa.E
open Go Go.RowKit
set_option linter.unusedVariables false
set_option linter.unusedSimpArgs false

/-- Nought values as pieces: arrays whole, all else cell by cell. -/
def lay (P : Program) : Nat → TypeId → Option (List (Nat × Bool))
  | 0, _ => none
  | f + 1, t => match P.underlying t, P.info? t with
    | some (.struct fs), some _ => fs.toList.foldr (fun x acc => match lay P f x.type, acc with | some l, some m => some (l ++ m) | _, _ => none) (some [])
    | some (.array _ _), some i => some [(i.size, true)]
    | some _, some _ => some [(1, false)]
    | _, _ => none
def cutL : List (Nat × Bool) → List Value → Option (List Pc)
  | [], [] => some []
  | [], _ :: _ => none
  | (n, b) :: l, vs =>
    bif Nat.ble n vs.length && ((vs.take n).all Value.oneCell') then
      match cutL l (vs.drop n) with
      | some ps => bif b then some (.arr (vs.take n).toArray n :: ps) else some ((vs.take n).map (fun v => .one (.v v)) ++ ps)
      | none => none
    else none
theorem lst_ones (ρ : Env) (l : List Value) : lst ρ (l.map fun v => .one (.v v)) = l := by
  induction l with
  | nil => rfl
  | cons v l ih => rw [List.map_cons, lst_cons, ih]; rfl
theorem cutL_ok (ρ : Env) : ∀ {l : List (Nat × Bool)} {vs : List Value} {ps : List Pc}, cutL l vs = some ps → pok ps ∧ pids ps = [] ∧ lst ρ ps = vs
  | [], [], _, h => by cases h; exact ⟨(fun _ h => by cases h), rfl, rfl⟩
  | [], _ :: _, _, h => by cases h
  | (n, b) :: l, vs, ps, h => by
    unfold cutL at h
    cases hc : (Nat.ble n vs.length && ((vs.take n).all Value.oneCell')) with
    | false => rw [hc] at h; cases h
    | true =>
      rw [hc] at h
      rw [Bool.and_eq_true, List.all_eq_true] at hc
      have hn := Nat.le_of_ble_eq_true hc.1
      cases hr : cutL l (vs.drop n) with
      | none => rw [hr] at h; cases h
      | some qs =>
        rw [hr] at h
        obtain ⟨h1, h2, h3⟩ := cutL_ok ρ hr
        cases b with
        | true =>
          cases h
          refine ⟨pok_cons.2 ⟨⟨by simp; omega, fun v hv => hc.2 v (by simpa using hv)⟩, h1⟩, h2, ?_⟩
          rw [lst_cons, h3]
          exact List.take_append_drop n vs
        | false =>
          cases h
          refine ⟨fun p hp => ?_, ?_, ?_⟩
          · rcases List.mem_append.1 hp with hp | hp
            · obtain ⟨v, hv, rfl⟩ := List.mem_map.1 hp
              exact hc.2 v hv
            · exact h1 p hp
          · rw [pids_append, h2, List.append_nil]
            generalize vs.take n = m
            induction m with
            | nil => rfl
            | cons v m ih => rw [List.map_cons, pids_cons, ih]; rfl
          · rw [lst_append, lst_ones, h3]
            exact List.take_append_drop n vs
def zpc (P : Program) (t : TypeId) : Option (List Pc) :=
  match P.info? t, lay P 16 t with
  | some i, some l => match i.zero with
    | some z => cutL l z.cells.toList
    | none => none
  | _, _ => none

def ptrTo (id : Nat) : TV := .s (.lf (.ptr id 0 0 0 0))
def fieldOff (P : Program) (t : TypeId) (f : Nat) : Option Nat :=
  match P.underlying t with
  | some (.struct fs) => match fs[f]? with
    | some x => match P.info? x.type with
      | some i => bif Nat.beq i.size 0 then none else some x.offset
      | none => none
    | none => none
  | _ => none
def addJ (r b i k j o : Nat) : Lf := bif Nat.beq k 0 then .ptr r (b + o) i k j else .ptr r b i k (j + o)
theorem addJ_val (ρ : Env) (r b i k j o : Nat) : (addJ r b i k j o).val ρ = .pointer (some ⟨(ρ r).1, (ρ r).2 + (b + i * k + j) + o, none⟩) := by
  unfold addJ
  cases hk : Nat.beq k 0 with
  | true => simp only [cond_true, Lf.val]; congr 3; omega
  | false => simp only [cond_false, Lf.val]; congr 3; omega
theorem addJ_ok (r b i k j o : Nat) : (addJ r b i k j o).ok := by unfold addJ; cases Nat.beq k 0 <;> trivial
def addN (i q : Nat) : Nat := bif Nat.beq i 0 then q else i + q
theorem addN_eq (i q : Nat) : addN i q = i + q := by
  unfold addN
  cases hb : Nat.beq i 0 with
  | true => have := Nat.eq_of_beq_eq_true hb; subst this; simp
  | false => rfl
/-- The place of an element: of an array at a place, of a slice. 'c': is the index a constant? -/
def elemAt (P : Program) (t : TypeId) (c : Bool) (x : Lf) (n : Int) : Option (List Prop × Lf) :=
  match P.underlying t, x with
  | some (.array len e), .ptr r b i k j => match P.info? e with
    | some ti => bif c then bif decide (0 ≤ n ∧ n < len) then some ([], addJ r b i k j (n.toNat * ti.size)) else none
      else bif Nat.beq k 0 then some ([0 ≤ n ∧ n < len], .ptr r (b + j) n.toNat ti.size 0)
      else some ([0 ≤ n ∧ n < len], .ptr r b (idx i k j + n.toNat * ti.size) 1 0)
    | none => none
  | some (.slice e), .sl r b i k len cap => match P.info? e with
    | some ti => bif Nat.beq ti.size k then some ([0 ≤ n ∧ n < len], .ptr r b (addN i n.toNat) k 0) else none
    | none => none
  | _, _ => none
theorem elemAt_ok {P : Program} {t : TypeId} {c : Bool} {x y : Lf} {n : Int} {kd : IntKind} {ρ : Env} {w : World} {ob : List Prop} (h : elemAt P t c x n = some (ob, y)) (ho : all ob) :
    (Instr.indexAt t (x.val ρ) (.int kd n)).run P w = .ok (y.val ρ) w ∧ y.ok := by
  unfold elemAt at h
  split at h
  · rename_i len e r b i k j hu
    split at h
    · rename_i ti hi
      have hrun : 0 ≤ n → n < len → (Instr.indexAt t (Lf.val ρ (.ptr r b i k j)) (.int kd n)).run P w = .ok (.pointer (some ⟨(ρ r).1, (ρ r).2 + (b + i * k + j) + n.toNat * ti.size, none⟩)) w := by
        intro h1 h2
        simp [Instr.indexAt, run_underlying hu, asIntOf, Lf.val, Instr.sureAddr, h1, h2, sizeOf, typeInfo, hi, addr_add]
      cases c with
      | true =>
        simp only [cond_true] at h
        cases hb : decide (0 ≤ n ∧ n < (len : Int)) with
        | false => rw [hb] at h; cases h
        | true =>
          rw [hb] at h
          cases h
          have hb := of_decide_eq_true hb
          rw [hrun hb.1 hb.2, addJ_val]
          exact ⟨rfl, addJ_ok ..⟩
      | false =>
        simp only [cond_false] at h
        cases hk : Nat.beq k 0 with
        | true =>
          rw [hk] at h
          cases h
          obtain rfl := Nat.eq_of_beq_eq_true hk
          rw [hrun ho.1.1 ho.1.2]
          refine ⟨?_, trivial⟩
          simp only [Lf.val]
          congr 4
          omega
        | false =>
          rw [hk] at h
          cases h
          rw [hrun ho.1.1 ho.1.2]
          refine ⟨?_, trivial⟩
          simp only [Lf.val, idx_eq]
          congr 4
          omega
    · cases h
  · rename_i e r b i k len cap hu
    split at h
    · rename_i ti hi
      cases hk : Nat.beq ti.size k with
      | false => rw [hk] at h; cases h
      | true =>
        rw [hk] at h
        cases h
        have := Nat.eq_of_beq_eq_true hk
        subst this
        obtain ⟨⟨h1, h2⟩, -⟩ := ho
        refine ⟨?_, trivial⟩
        simp [Instr.indexAt, run_underlying hu, asIntOf, Lf.val, h1, h2, sizeOf, typeInfo, hi, addr_add]
        rw [addN_eq, Nat.add_mul]; omega
    · cases h
  · cases h

/-- A piece of a slice, or of an array at a place. -/
def sliLf (P : Program) (t : TypeId) (x : Lf) (lo hi : Option Int) : Option (List Prop × Lf) :=
  match P.underlying t, x with
  | some (.slice e), .sl r b i k len cap => match P.info? e with
    | some ti => bif Nat.beq ti.size k then
        match lo, hi with
        | none, none => some ([], .sl r b i k len cap)
        | none, some h => match cap with
          | some cap => some ([0 ≤ h ∧ h ≤ cap], .sl r b i k h.toNat (some cap))
          | none => none
        | some l, none => match cap with
          | some cap => some ([0 ≤ l ∧ l ≤ len, len ≤ cap], .sl r b (bif Nat.beq cap l.toNat then i else i + l.toNat) k (len - l.toNat) (some (cap - l.toNat)))
          | none => none
        | some l, some h => match cap with
          | some cap => some ([0 ≤ h ∧ h ≤ cap, 0 ≤ l ∧ l ≤ h], .sl r b (bif Nat.beq cap l.toNat then i else i + l.toNat) k (h.toNat - l.toNat) (some (cap - l.toNat)))
          | none => none
      else none
    | none => none
  | some (.array n e), .ptr r b i k j => match P.info? e, lo, hi with
    | some ti, none, none => bif Nat.beq k 0 then bif Nat.beq n 0 then none else some ([], .sl r (b + j) 0 ti.size n (some n)) else none
    | _, _, _ => none
  | _, _ => none

def cstI : Operand → Bool
  | .const (.int _ _) => true
  | _ => false
def intsOf : List TV → Option (List Int)
  | [] => some []
  | .s (.lf (.v (.int _ n))) :: l => match intsOf l with | some m => some (n :: m) | none => none
  | _ => none

def efVal (x : TV) : Option Eff := some ⟨[], x, [], []⟩
def efV (r : VR) : Option Eff := match r with
  | some (ob, v) => some ⟨ob, .v v, [], []⟩
  | none => none
def efLf (r : Option (List Prop × Lf)) : Option Eff := match r with
  | some (ob, v) => some ⟨ob, .s (.lf v), [], []⟩
  | none => none
def efLoad (P : Program) (t : TypeId) (args : List TV) (rw : Nat → Option Row) : Option Eff :=
  match args with
  | [.s (.lf (.ptr r b i k j))] => match rw r, tyI P t with
    | some row, some (sz, ag) => match getP row.ps b i k j sz ag with
      | some (ob, x) => some ⟨ob, .s x, [], []⟩
      | none => none
    | _, _ => none
  | _ => none
def efStore (P : Program) (t : TypeId) (args : List TV) (rw : Nat → Option Row) : Option Eff :=
  match args with
  | [.s (.lf (.ptr r b i k j)), .s x] => match rw r, tyI P t, x.pcs with
    | some row, some (sz, ag), some new => bif row.w && Nat.beq (sumS new) sz then
        match putP row.ps b i k j sz new with
        | some (ob, ps) => some ⟨ob, .s .un, [(r, ⟨ps, true, row.cp⟩)], []⟩
        | none => none
      else none
    | _, _, _ => none
  | _ => none
def efBox (id : Nat) (args : List TV) : Option Eff :=
  match args with
  | [.s x] => match x.pcs with
    | some ps => some ⟨[], ptrTo id, [(id, ⟨ps, true, none⟩)], []⟩
    | none => none
  | _ => none
def efCall (C : Hints) (id : Nat) (f : FuncId) (args : List TV) (rw : Nat → Option Row) : Option Eff :=
  match hC C id, args with
  | some c, _ :: args => bif Nat.beq c.f f then
      some ⟨(∀ ρ : Env, (args.map (TV.val ρ)).toArray = c.args ρ) :: c.pre.map (fun p => rw p.1 = some p.2), c.res, c.put ++ (c.made.map fun r => (id, r)).toList, c.dels⟩
    else none
  | none, _ :: args => match hX C id with
    | some (g, av, res) => bif Nat.beq g f then some ⟨[∀ ρ : Env, (args.map (TV.val ρ)).toArray = av], res, [], []⟩ else none
    | none => none
  | _, _ => none
def efLen (P : Program) (tys : Array TypeId) (args : List TV) : Option Eff :=
  match tys[0]? with
  | some t => match P.underlying t, args with
    | some .string, [.s (.lf (.v (.string s)))] => efVal (.int .i64 (lb s).length)
    | some (.slice _), [.s (.lf (.sl _ _ _ _ n _))] => efVal (.int .i64 n)
    | some (.slice _), [.s (.lf (.v (.slice _ n _)))] => efVal (.int .i64 n)
    | some (.array n _), [_] => efVal (.int .i64 n)
    | _, _ => none
  | none => none

/-! ### build -/

def fldL (P : Program) : List Field → Option (List (Nat × Nat))
  | [] => some []
  | f :: l => match P.info? f.type, fldL P l with
    | some i, some m => some ((f.offset, i.size) :: m)
    | _, _ => none
def placeL (l : List (Nat × Nat)) (sz : Option Nat) (i : Nat) : Option (Nat × Nat) :=
  match sz with
  | some s => some (i * s, s)
  | none => l[i]?
/-- The places of a struct's fields, or the size of an array's elements. -/
def places (P : Program) (t : TypeId) : Option (List (Nat × Nat) × Option Nat) :=
  match P.underlying t with
  | some (.struct fs) => match fldL P fs.toList with
    | some l => some (l, none)
    | none => none
  | some (.array _ e) => match P.info? e with
    | some i => some ([], some i.size)
    | none => none
  | _ => none
def fillS (pl : Nat → Option (Nat × Nat)) : List Pc → List (Nat × Operand) → List TV → Option (List Prop × List Pc)
  | ps, [], [] => some ([], ps)
  | ps, (i, _) :: l, .s x :: m => match pl i, x.pcs with
    | some (off, sz), some new => bif Nat.beq (sumS new) sz then
        match putS ps off sz new with
        | some (o1, ps1) => match fillS pl ps1 l m with
          | some (o2, ps2) => some (o1 ++ o2, ps2)
          | none => none
        | none => none
      else none
    | _, _ => none
  | _, _, _ => none
def efBuild (P : Program) (t : TypeId) (parts : List (Nat × Operand)) (args : List TV) : Option Eff :=
  match zpc P t, places P t with
  | some ps, some (l, sz) => match fillS (placeL l sz) ps parts args with
    | some (ob, ps) => some ⟨ob, .s (.agg ps), [], []⟩
    | none => none
  | _, _ => none
theorem fold_set : ∀ (vs O X Y : List Value) (off k : Nat) (cs : Array Value), cs.toList = X ++ O ++ Y → O.length = vs.length → X.length = off + k →
    ((vs.zipIdx k).foldl (fun cs (x : Value × Nat) => cs.setIfInBounds (off + x.2) x.1) cs).toList = X ++ vs ++ Y
  | [], O, X, Y, off, k, cs, h, h1, _ => by
    have : O = [] := List.length_eq_zero_iff.1 h1
    subst this
    simpa using h
  | v :: vs, [], X, Y, off, k, cs, h, h1, _ => by cases h1
  | v :: vs, o :: O, X, Y, off, k, cs, h, h1, h2 => by
    rw [List.zipIdx_cons, List.foldl_cons]
    have := fold_set vs O (X ++ [v]) Y off (k + 1) (cs.setIfInBounds (off + k) v) (by
      rw [Array.toList_setIfInBounds, h, ← h2, List.append_assoc, List.set_append_right _ _ (Nat.le_refl _), Nat.sub_self]
      simp) (by simpa using h1) (by simp; omega)
    rw [this]
    simp
theorem run_fields {P : Program} {w : World} : ∀ {fs : List Field} {l : List (Nat × Nat)}, fldL P fs = some l → (fs.mapM fun (f : Field) => do pure (f.offset, ← sizeOf f.type)).run P w = .ok l w
  | [], l, h => by cases h; rfl
  | f :: fs, l, h => by
    unfold fldL at h
    split at h
    · rename_i i m h1 h2
      cases h
      have h3 : (do pure (f.offset, ← sizeOf f.type) : Sem (Nat × Nat)).run P w = .ok (f.offset, i.size) w := by simp [sizeOf, typeInfo, h1]
      rw [List.mapM_cons, Sem.run_bind, h3, Result.andThen_ok, Sem.run_bind, run_fields h2]
      rfl
    · cases h
theorem fillS_ok (ρ : Env) {pl : Nat → Option (Nat × Nat)} : ∀ {ps : List Pc} {parts : List (Nat × Operand)} {args : List TV} {ob : List Prop} {ps' : List Pc} {cs : Array Value} {ev : Operand → Value},
    pok ps → fillS pl ps parts args = some (ob, ps') → all ob → (∀ x ∈ args, x.ok) → parts.map (fun p => ev p.2) = args.map (TV.val ρ) → cs.toList = lst ρ ps →
    ∃ cs', Instr.fill pl cs (parts.map fun p => (p.1, ev p.2)) = some cs' ∧ cs'.toList = lst ρ ps' ∧ pok ps'
  | ps, [], [], ob, ps', cs, ev, hp, h, ho, hok, hv, hc => by cases h; exact ⟨cs, rfl, hc, hp⟩
  | ps, [], _ :: _, ob, ps', cs, ev, hp, h, ho, hok, hv, hc => by cases h
  | ps, _ :: _, [], ob, ps', cs, ev, hp, h, ho, hok, hv, hc => by cases h
  | ps, (i, x) :: l, .tup _ :: m, ob, ps', cs, ev, hp, h, ho, hok, hv, hc => by cases h
  | ps, (i, x) :: l, .s y :: m, ob, ps', cs, ev, hp, h, ho, hok, hv, hc => by
    unfold fillS at h
    split at h
    · rename_i off sz new h1 h2
      cases hb : Nat.beq (sumS new) sz with
      | false => rw [hb] at h; cases h
      | true =>
        rw [hb] at h
        simp only [cond_true] at h
        split at h
        · rename_i o1 ps1 h3
          split at h
          · rename_i o2 ps2 h4
            cases h
            obtain ⟨ho1, ho2⟩ := all_append.1 ho
            obtain ⟨g1, g2, g3⟩ := pcs_ok (ρ := ρ) h2 (hok (.s y) (by simp))
            have hl : (lst ρ new).length = sz := by rw [sumS_ok ρ g1]; exact Nat.eq_of_beq_eq_true hb
            have hput := putS_ok (ρ := ρ) g1 hl hp h3 ho1
            simp only [List.map_cons, List.cons.injEq] at hv
            obtain ⟨hv1, hv2⟩ := hv
            have hcl : (ev x).cells.toList = lst ρ new := by rw [hv1]; exact g2
            obtain ⟨X, O, Y, e1, e2, e3, e4⟩ := hput.repl
            have hsz : (ev x).cells.size = sz := by rw [← Array.length_toList, hcl, hl]
            have hfit : off + sz ≤ cs.size := by rw [← Array.length_toList, hc, e1]; simp; omega
            have hstep : ((ev x).cells.zipIdx.foldl (fun cs (z : Value × Nat) => cs.setIfInBounds (off + z.2) z.1) cs).toList = lst ρ ps1 := by
              rw [← Array.foldl_toList, Array.toList_zipIdx, hcl, fold_set _ O X Y _ _ _ (by rw [hc, e1]) e2 (by rw [e4]; rfl), e3]
            obtain ⟨cs', k1, k2, k3⟩ := fillS_ok ρ (ev := ev) hput.ok h4 ho2 (fun z hz => hok z (by simp [hz])) hv2 hstep
            refine ⟨cs', ?_, k2, k3⟩
            simp only [List.map_cons, Instr.fill, h1]
            rw [if_neg (by simp [hsz]; omega)]
            exact k1
          · cases h
        · cases h
    · cases h

end Go.Proofs.Ytlofoeapfmcolaa.E
