/- Several texts, one behind the other; each says by itself what it proves, and on what conditions. -/
import Derived.Orders
import Derived.Tactics
import Derived.Below
import Derived.Laws.Cells
import Derived.Laws.CopyRow
import Derived.Laws.Rows
import Derived.Laws.NewFold
import Derived.Laws.Entries
import Derived.OneCell
import Derived.KernelRfl
import Derived.RangeFuncOwn
/- An engine: symbolic states of a function of the program: rows of memory, temporaries. No condition. -/
namespace Go.Proofs.YtdbbcngolcnniaaGreatDoor.E
open Go Go.RowKit
set_option linter.unusedVariables false
set_option linter.unusedSimpArgs false
inductive Lf where
 | v (x : Value)
 | ptr (r b i k j : Nat)
 | sl (r b i k len : Nat) (cap : Option Nat)
 | clo (f : FuncId) (rs : List Nat)
structure Blk where
 b : Nat
 o : Nat
 c : Nat
abbrev Env := Nat → Blk
def capOf (c i : Nat) : Option Nat → Nat
 | some n => n
 | none => c - i
def Lf.val (ρ : Env) : Lf → Value
 | .v x => x
 | .ptr r b i k j => .pointer (some ⟨(ρ r).1, (ρ r).2 + (b + i * k + j), none⟩)
 | .sl r b i k len cap => .slice (some ⟨(ρ r).1, (ρ r).2 + (b + i * k), none⟩) len (capOf (ρ r).3 i cap)
 | .clo f rs => .func (.func f) #[] (rs.map fun r => .pointer (some ⟨(ρ r).1, (ρ r).2, none⟩)).toArray
def Lf.ids : Lf → List Nat
 | .v _ => []
 | .ptr r _ _ _ _ => [r]
 | .sl r _ _ _ _ _ => [r]
 | .clo _ rs => rs
def Lf.ok : Lf → Prop
 | .v x => x.oneCell' = true
 | _ => True
inductive Pc where
 | one (x : Lf)
 | arr (A : Array Value) (n : Nat)
 | fnc (f : Nat → List Value) (k n : Nat)
def Pc.size : Pc → Nat
 | .one _ => 1
 | .arr _ n => n
 | .fnc _ k n => n * k
def Pc.arrV (ρ : Env) : Pc → Array Value
 | .one x => #[x.val ρ]
 | .arr A _ => A
 | .fnc f _ n => ((List.range n).flatMap f).toArray
def Pc.ids : Pc → List Nat
 | .one x => x.ids
 | _ => []
def Pc.ok : Pc → Prop
 | .one x => x.ok
 | .arr A n => A.size = n ∧ ∀ v ∈ A.toList, v.oneCell' = true
 | .fnc f k n => ∀ i, i < n → (f i).length = k ∧ ∀ v ∈ f i, v.oneCell' = true
def cells (ρ : Env) : List Pc → Array Value
 | [] => #[]
 | p :: ps => ps.foldl (fun A q => A ++ q.arrV ρ) (p.arrV ρ)
def lst (ρ : Env) (ps : List Pc) : List Value := ps.flatMap fun p => (p.arrV ρ).toList
def pids (ps : List Pc) : List Nat := ps.flatMap Pc.ids
def pok (ps : List Pc) : Prop := ∀ p ∈ ps, p.ok
inductive SV where
 | lf (x : Lf)
 | agg (ps : List Pc)
 | un
def SV.val (ρ : Env) : SV → Value
 | .lf x => x.val ρ
 | .agg ps => .agg (cells ρ ps)
 | .un => undef
def SV.ids : SV → List Nat
 | .lf x => x.ids
 | .agg ps => pids ps
 | .un => []
def SV.ok : SV → Prop
 | .lf x => x.ok
 | .agg ps => pok ps
 | .un => True
inductive TV where
 | s (x : SV)
 | tup (l : List SV)
def TV.val (ρ : Env) : TV → Value
 | .s x => x.val ρ
 | .tup l => .tuple (l.map (SV.val ρ)).toArray
def TV.ids : TV → List Nat
 | .s x => x.ids
 | .tup l => l.flatMap SV.ids
def TV.ok : TV → Prop
 | .s x => x.ok
 | .tup l => ∀ x ∈ l, x.ok
abbrev TV.v (x : Value) : TV := .s (.lf (.v x))
abbrev TV.int (k : IntKind) (n : Int) : TV := .s (.lf (.v (.int k n)))
structure Row where
 ps : List Pc
 w : Bool
 cp : Option (TypeId × Nat)
structure St where
 n : Nat
 tmps : Nat → Option TV
 row : Nat → Option Row
 used : Nat → Bool
 mks : List Nat
 kn : Nat → Option Blk
def markD (D : Nat) : Deferred := { target := .collected D, args := #[] }
theorem cells_list (ρ : Env) : ∀ ps : List Pc, (cells ρ ps).toList = lst ρ ps
 | [] => rfl
 | p :: ps => by
  have : ∀ (ps : List Pc) (A : Array Value), (ps.foldl (fun A q => A ++ q.arrV ρ) A).toList = A.toList ++ lst ρ ps := by
   intro ps
   induction ps with
   | nil => intro A; simp [lst]
   | cons q ps ih => intro A; rw [List.foldl_cons, ih]; simp [lst, List.append_assoc]
  show (ps.foldl (fun A q => A ++ q.arrV ρ) (p.arrV ρ)).toList = _
  rw [this]; rfl
theorem lst_cons (ρ : Env) (p : Pc) (ps : List Pc) : lst ρ (p :: ps) = (p.arrV ρ).toList ++ lst ρ ps := rfl
theorem lst_append (ρ : Env) (ps qs : List Pc) : lst ρ (ps ++ qs) = lst ρ ps ++ lst ρ qs := by simp [lst]
theorem Pc.len {ρ : Env} {p : Pc} (h : p.ok) : (p.arrV ρ).toList.length = p.size := by
 cases p with
 | one x => rfl
 | arr A n => exact h.1
 | fnc f k n =>
  show ((List.range n).flatMap f).length = n * k
  have : ∀ m, m ≤ n → ((List.range m).flatMap f).length = m * k := by
   intro m
   induction m with
   | zero => intro _; simp
   | succ m ih =>
    intro hm
    rw [List.range_succ, List.flatMap_append, List.length_append, ih (by omega)]
    simp [(h m (by omega)).1, Nat.succ_mul]
  exact this n (Nat.le_refl n)
theorem Lf.one_val {ρ : Env} {x : Lf} (h : x.ok) : (x.val ρ).oneCell' = true := by
 cases x <;> first | exact h | rfl
theorem Pc.onec {ρ : Env} {p : Pc} (h : p.ok) : ∀ v ∈ (p.arrV ρ).toList, v.oneCell' = true := by
 cases p with
 | one x => intro v hv; simp [Pc.arrV] at hv; subst hv; exact Lf.one_val h
 | arr A n => exact h.2
 | fnc f k n =>
  intro v hv
  simp only [Pc.arrV, List.mem_flatMap, List.mem_range] at hv
  obtain ⟨i, hi, hv⟩ := hv
  exact (h i hi).2 v hv
theorem lst_one {ρ : Env} {ps : List Pc} (h : pok ps) : ∀ v ∈ lst ρ ps, v.oneCell' = true := by
 intro v hv
 simp only [lst, List.mem_flatMap] at hv
 obtain ⟨p, hp, hv⟩ := hv
 exact Pc.onec (h p hp) v hv
theorem Lf.val_congr {ρ σ : Env} {x : Lf} (h : ∀ r ∈ x.ids, ρ r = σ r) : x.val ρ = x.val σ := by
 cases x <;> simp_all [Lf.val, Lf.ids]
theorem Pc.arrV_congr {ρ σ : Env} {p : Pc} (h : ∀ r ∈ p.ids, ρ r = σ r) : p.arrV ρ = p.arrV σ := by
 cases p with
 | one x => simp only [Pc.arrV]; rw [Lf.val_congr h]
 | _ => rfl
theorem lst_congr {ρ σ : Env} {ps : List Pc} (h : ∀ r ∈ pids ps, ρ r = σ r) : lst ρ ps = lst σ ps := by
 induction ps with
 | nil => rfl
 | cons p ps ih =>
  rw [lst_cons, lst_cons, ih (fun r hr => h r (by simp [pids] at hr ⊢; exact .inr hr)), Pc.arrV_congr (fun r hr => h r (by simp [pids]; exact .inl hr))]
theorem cells_congr {ρ σ : Env} {ps : List Pc} (h : ∀ r ∈ pids ps, ρ r = σ r) : cells ρ ps = cells σ ps := by
 apply Array.ext'
 rw [cells_list, cells_list, lst_congr h]
theorem SV.val_congr {ρ σ : Env} {x : SV} (h : ∀ r ∈ x.ids, ρ r = σ r) : x.val ρ = x.val σ := by
 cases x with
 | lf x => exact Lf.val_congr h
 | agg ps => simp only [SV.val]; rw [cells_congr h]
 | un => rfl
theorem TV.val_congr {ρ σ : Env} {x : TV} (h : ∀ r ∈ x.ids, ρ r = σ r) : x.val ρ = x.val σ := by
 cases x with
 | s x => exact SV.val_congr h
 | tup l =>
  simp only [TV.val]
  congr 2
  apply List.map_congr_left
  intro x hx
  exact SV.val_congr fun r hr => h r (List.mem_flatMap.2 ⟨x, hx, hr⟩)
def RowAt (ρ : Env) (r : Nat) (row : Row) (w : World) : Prop :=
 (ρ r).1 < w.heap.size ∧ (∀ j v, (lst ρ row.ps)[j]? = some v → w.cell? ⟨(ρ r).1, (ρ r).2 + j, none⟩ = some v ∧ (row.w = true → w.frozen? ⟨(ρ r).1, (ρ r).2 + j, none⟩ = false)) ∧
 (∀ e k, row.cp = some (e, k) → (ρ r).2 = 0 ∧ (ρ r).3 ≤ maxLen ∧ (lst ρ row.ps).length ≤ (ρ r).3 * k ∧ ∃ cur, w.heap[(ρ r).1]? = some (.cells cur e (0, 0)) ∧ cur.size = (ρ r).3 * k) ∧
 ∃ cur t fz, w.heap[(ρ r).1]? = some (.cells cur t fz)
def MkOk (n0 : Nat) (w : World) (l : List Nat) : Prop := l.Nodup ∧ ∀ D ∈ l, n0 ≤ D ∧ w.heap[D]? = some (.deferred (some []))
structure Fr (w0 : World) (wr : List Nat) (w : World) : Prop where
 os : w.os = w0.os
 tape : w.tape = w0.tape
 output : w.output = w0.output
 size : w0.heap.size ≤ w.heap.size
 block : ∀ k, k < w0.heap.size → k ∉ wr → w.heap[k]? = w0.heap[k]?
theorem Fr.refl (w : World) (wr : List Nat) : Fr w wr w := ⟨rfl, rfl, rfl, Nat.le_refl _, fun _ _ _ => rfl⟩
theorem Fr.below {w0 w : World} (h : Fr w0 [] w) : Below w0.heap.size w0 w := ⟨h.os, h.tape, h.output, h.size, fun k hk => h.block k hk (by simp)⟩
theorem Fr.of_below {w0 w : World} (h : Below w0.heap.size w0 w) (wr : List Nat) : Fr w0 wr w := ⟨h.os, h.tape, h.output, h.size, fun k hk _ => h.block k hk⟩
structure Bs where
 l : List Nat
 e : Env
 k : List Nat
structure Den (w0 : World) (wr : Bs) (ρ : Env) (s : St) (a : Act) (w : World) : Prop where
 sz : a.tmps.size = s.n
 df : a.defers = s.mks.map markD
 mf : MkOk w0.heap.size w s.mks
 ko : KeepsOthers w0 w
 tm : ∀ t x, s.tmps t = some x → a.tmps[t]? = some (x.val ρ) ∧ x.ok ∧ ∀ r ∈ x.ids, s.used r = true
 rw : ∀ r row, s.row r = some row → RowAt ρ r row w ∧ pok row.ps ∧ s.used r = true ∧ (∀ q ∈ pids row.ps, s.used q = true) ∧ (row.w = true → w0.heap.size ≤ (ρ r).1 ∨ (ρ r).1 ∈ wr.l)
 ds : ∀ r q row rq, s.row r = some row → s.row q = some rq → r ≠ q → row.w = true → (ρ r).1 ≠ (ρ q).1
 fr : Fr w0 wr.l w
 e0 : ∀ r, (r < 1000 ∨ r ∈ wr.k) → ρ r = wr.e r
 ku : ∀ r ∈ wr.k, s.used r = true
 gl : ∀ g, g < 500 → s.used (500 + g) = true → ρ (500 + g) = ⟨g, 0, 0⟩
 kn : ∀ r B, s.kn r = some B → s.used r = true ∧ ρ r = B
theorem cell_alloc_new {w : World} {A : Array Value} {t : TypeId} {x : Nat} : (w.alloc (.cells A t)).cell? ⟨w.heap.size, x, none⟩ = A[x]? := by
 unfold World.cell?
 rw [show (w.alloc (.cells A t)).heap[w.heap.size]? = some (.cells A t (0, 0)) from Go.heap_alloc_new w _]
 rfl
theorem frozen_alloc_new {w : World} {A : Array Value} {t : TypeId} {x : Nat} : (w.alloc (.cells A t)).frozen? ⟨w.heap.size, x, none⟩ = false := by
 unfold World.frozen?
 rw [show (w.alloc (.cells A t)).heap[w.heap.size]? = some (.cells A t (0, 0)) from Go.heap_alloc_new w _]
 simp
theorem RowAt.keep {ρ : Env} {r : Nat} {row : Row} {w w2 : World} (h : RowAt ρ r row w) (hs : w.heap.size ≤ w2.heap.size) (hb : w2.heap[(ρ r).1]? = w.heap[(ρ r).1]?) : RowAt ρ r row w2 := by
 refine ⟨Nat.lt_of_lt_of_le h.1 hs, fun j v hv => ?_, fun e k hc => ?_, by rw [hb]; exact h.2.2.2⟩
 ·obtain ⟨h1, h2⟩ := h.2.1 j v hv
  refine ⟨?_, fun hw => ?_⟩
  ·have : w2.cell? ⟨(ρ r).1, (ρ r).2 + j, none⟩ = w.cell? ⟨(ρ r).1, (ρ r).2 + j, none⟩ := World.cell?_of_block (w := w) hb
   rw [this]; exact h1
  ·have : w2.frozen? ⟨(ρ r).1, (ρ r).2 + j, none⟩ = w.frozen? ⟨(ρ r).1, (ρ r).2 + j, none⟩ := World.frozen?_of_block (w := w) hb
   rw [this]; exact h2 hw
 ·rw [hb]; exact h.2.2.1 e k hc
structure Wrote (g o : Nat) (vs : List Value) (w w2 : World) : Prop where
 os : w2.os = w.os
 tape : w2.tape = w.tape
 output : w2.output = w.output
 size : w2.heap.size = w.heap.size
 block : ∀ k, k ≠ g → w2.heap[k]? = w.heap[k]?
 frozen : ∀ x, w2.frozen? ⟨g, x, none⟩ = w.frozen? ⟨g, x, none⟩
 inn : ∀ j v, vs[j]? = some v → w2.cell? ⟨g, o + j, none⟩ = some v
 out : ∀ x, (x < o ∨ o + vs.length ≤ x) → w2.cell? ⟨g, x, none⟩ = w.cell? ⟨g, x, none⟩
 shape : ∀ cur t fz, w.heap[g]? = some (.cells cur t fz) → ∃ cur', w2.heap[g]? = some (.cells cur' t fz) ∧ cur'.size = cur.size
theorem cell_setCell {w : World} {g o x : Nat} {v : Value} : (w.setCell ⟨g, o, none⟩ v).cell? ⟨g, x, none⟩ = if x = o then (w.cell? ⟨g, x, none⟩).map fun _ => v else w.cell? ⟨g, x, none⟩ := by
 unfold World.cell? World.setCell
 simp only [Array.getElem?_modify, if_true]
 cases hq : w.heap[g]? with
 | none => simp
 | some ob =>
  cases ob <;> simp
  rename_i c e f
  rw [Array.getElem?_setIfInBounds]
  by_cases h : x = o
  ·subst h
   by_cases hx : x < c.size
   ·simp [hx]
   ·simp [hx, Array.getElem?_eq_none (Nat.le_of_not_lt hx)]
  ·rw [if_neg (Ne.symm h), if_neg h]
theorem frozen_setCell {w : World} {g o x : Nat} {v : Value} : (w.setCell ⟨g, o, none⟩ v).frozen? ⟨g, x, none⟩ = w.frozen? ⟨g, x, none⟩ := by
 unfold World.frozen? World.setCell
 simp only [Array.getElem?_modify, if_true]
 cases hq : w.heap[g]? with
 | none => simp
 | some ob => cases ob <;> simp
theorem heap_setCell_self {w : World} {g o : Nat} {v : Value} {cur : Array Value} {t : TypeId} {fz : Nat × Nat} (h : w.heap[g]? = some (.cells cur t fz)) : (w.setCell ⟨g, o, none⟩ v).heap[g]? = some (.cells (cur.setIfInBounds o v) t fz) := by
 unfold World.setCell
 simp only [Array.getElem?_modify, if_true, h, Option.map_some]
 rfl
theorem addr_add (g o j : Nat) : (⟨g, o, none⟩ : Addr).add j = ⟨g, o + j, none⟩ := by unfold Addr.add; split <;> simp_all
theorem storeCells_ok (P : Program) (g o : Nat) : ∀ (vs : List Value) (i : Nat) (w : World), (∀ j, j < vs.length → (w.cell? ⟨g, o + i + j, none⟩).isSome = true ∧ w.frozen? ⟨g, o + i + j, none⟩ = false) → (∀ v ∈ vs, v.oneCell' = true) →
  ∃ w2, (storeCells ⟨g, o, none⟩ vs i).run P w = .ok () w2 ∧ Wrote g (o + i) vs w w2
 | [], i, w, _, _ => ⟨w, rfl, rfl, rfl, rfl, rfl, fun _ _ => rfl, fun _ => rfl, (fun j v h => by simp at h), fun _ _ => rfl, fun cur t fz h => ⟨cur, h, rfl⟩⟩
 | v :: vs, i, w, h, h1 => by
  obtain ⟨c0, f0⟩ := h 0 (by simp)
  have hst : (store ((⟨g, o, none⟩ : Addr).add i) v).run P w = .ok () (w.setCell ⟨g, o + i, none⟩ v) := by
   rw [addr_add, run_store P w _ v _ (h1 v (by simp))]
   rw [Nat.add_zero] at c0 f0
   cases hq : w.cell? ⟨g, o + i, none⟩ with
   | none => rw [hq] at c0; cases c0
   | some u => simp [f0]
  obtain ⟨w2, hr, hw⟩ := storeCells_ok P g o vs (i + 1) (w.setCell ⟨g, o + i, none⟩ v) (fun j hj => by
   have := h (j + 1) (by simp; omega)
   rw [cell_setCell, frozen_setCell, if_neg (by omega), show o + (i + 1) + j = o + i + (j + 1) by omega]
   exact this) (fun u hu => h1 u (by simp [hu]))
  refine ⟨w2, ?_, hw.os, hw.tape, hw.output, by rw [hw.size]; simp [World.setCell], fun k hk => by rw [hw.block k hk, Below.heap_setCell _ _ _ _ hk], fun x => by rw [hw.frozen, frozen_setCell], ?_, ?_, ?_⟩
  ·simp only [storeCells, Sem.run_bind, hst, Result.andThen_ok]
   exact hr
  ·intro j u hu
   cases j with
   | zero =>
    simp at hu
    subst hu
    rw [Nat.add_zero, hw.out _ (.inl (by omega)), cell_setCell, if_pos rfl]
    rw [Nat.add_zero] at c0
    cases hq : w.cell? ⟨g, o + i, none⟩ with
    | none => rw [hq] at c0; cases c0
    | some u => rfl
   | succ j =>
    have := hw.inn j u (by simpa using hu)
    rw [show o + i + (j + 1) = o + (i + 1) + j by omega]
    exact this
  ·intro x hx
   rw [List.length_cons] at hx
   rw [hw.out x (by omega), cell_setCell, if_neg (by omega)]
  ·intro cur t fz hc
   obtain ⟨cur', g1, g2⟩ := hw.shape _ t fz (heap_setCell_self hc)
   exact ⟨cur', g1, by rw [g2]; simp⟩
end Go.Proofs.YtdbbcngolcnniaaGreatDoor.E
/- Reading and writing the cells of a symbolic row. No condition. -/
namespace Go.Proofs.YtdbbcngolcnniaaGreatDoor.E
open Go Go.RowKit
set_option linter.unusedVariables false
set_option linter.unusedSimpArgs false
def all : List Prop → Prop
 | [] => True
 | p :: l => p ∧ all l
theorem all_append {l m : List Prop} : all (l ++ m) ↔ all l ∧ all m := by
 induction l with
 | nil => simp [all]
 | cons p l ih => simp [all, ih, and_assoc]
def Has (L N : List Value) (off : Nat) : Prop := ∃ X Y, L = X ++ N ++ Y ∧ X.length = off
def Repl (L L' N : List Value) (off : Nat) : Prop := ∃ X O Y, L = X ++ O ++ Y ∧ O.length = N.length ∧ L' = X ++ N ++ Y ∧ X.length = off
theorem Has.get {L N : List Value} {off : Nat} (h : Has L N off) {j : Nat} {v : Value} (hv : N[j]? = some v) : L[off + j]? = some v := by
 obtain ⟨X, Y, rfl, rfl⟩ := h
 have hj : j < N.length := (List.getElem?_eq_some_iff.1 hv).1
 rw [List.append_assoc, List.getElem?_append_right (by omega), show X.length + j - X.length = j by omega, List.getElem?_append_left hj]
 exact hv
theorem Has.pre {L N M : List Value} {off : Nat} (h : Has L N off) : Has (M ++ L) N (M.length + off) := by
 obtain ⟨X, Y, rfl, rfl⟩ := h
 exact ⟨M ++ X, Y, by simp [List.append_assoc], by simp⟩
theorem Has.suf {L N M : List Value} {off : Nat} (h : Has L N off) : Has (L ++ M) N off := by
 obtain ⟨X, Y, rfl, rfl⟩ := h
 exact ⟨X, Y ++ M, by simp [List.append_assoc], rfl⟩
theorem Repl.pre {L L' N M : List Value} {off : Nat} (h : Repl L L' N off) : Repl (M ++ L) (M ++ L') N (M.length + off) := by
 obtain ⟨X, O, Y, rfl, h1, rfl, rfl⟩ := h
 exact ⟨M ++ X, O, Y, by simp [List.append_assoc], h1, by simp [List.append_assoc], by simp⟩
theorem Repl.suf {L L' N M : List Value} {off : Nat} (h : Repl L L' N off) : Repl (L ++ M) (L' ++ M) N off := by
 obtain ⟨X, O, Y, rfl, h1, rfl, rfl⟩ := h
 exact ⟨X, O, Y ++ M, by simp [List.append_assoc], h1, by simp [List.append_assoc], rfl⟩
theorem has_slice {L : List Value} {off s : Nat} (h : off + s ≤ L.length) : Has L ((L.drop off).take s) off := by
 refine ⟨L.take off, (L.drop off).drop s, ?_, by simp; omega⟩
 rw [List.append_assoc, List.take_append_drop, List.take_append_drop]
theorem has_one {L : List Value} {off : Nat} {v : Value} (h : L[off]? = some v) : Has L [v] off := by
 obtain ⟨hl, rfl⟩ := List.getElem?_eq_some_iff.1 h
 refine ⟨L.take off, L.drop (off + 1), ?_, by simp; omega⟩
 rw [List.append_assoc, List.singleton_append, ← List.drop_eq_getElem_cons hl, List.take_append_drop]
theorem repl_set {L : List Value} {off : Nat} {v : Value} (h : off < L.length) : Repl L (L.set off v) [v] off := by
 refine ⟨L.take off, [L[off]], L.drop (off + 1), ?_, rfl, ?_, by simp; omega⟩
 ·rw [List.append_assoc, List.singleton_append, ← List.drop_eq_getElem_cons h, List.take_append_drop]
 ·rw [List.set_eq_take_append_cons_drop, if_pos h]; simp
def loc : List Pc → Nat → Option (List Pc × Nat)
 | [], _ => none
 | p :: ps, b => bif Nat.beq b 0 then some (p :: ps, 0) else bif Nat.ble p.size b then loc ps (b - p.size) else some (p :: ps, b)
theorem loc_ok (ρ : Env) : ∀ {ps : List Pc} {b : Nat} {rs : List Pc} {o : Nat}, pok ps → loc ps b = some (rs, o) → ∃ pre, ps = pre ++ rs ∧ (lst ρ pre).length + o = b
 | [], _, _, _, _, h => by cases h
 | p :: ps, b, rs, o, hp, h => by
  unfold loc at h
  cases hb : Nat.beq b 0 with
  | true =>
   rw [hb] at h
   obtain rfl : b = 0 := Nat.eq_of_beq_eq_true hb
   cases h
   exact ⟨[], rfl, rfl⟩
  | false =>
   rw [hb] at h
   cases hl : Nat.ble p.size b with
   | true =>
    rw [hl] at h
    obtain ⟨pre, rfl, h2⟩ := loc_ok ρ (fun q hq => hp q (by simp [hq])) h
    have := Nat.le_of_ble_eq_true hl
    refine ⟨p :: pre, rfl, ?_⟩
    rw [lst_cons, List.length_append, Pc.len (hp p (by simp))]
    omega
   | false =>
    rw [hl] at h
    cases h
    exact ⟨[], rfl, by simp [lst]⟩
def takeP : List Pc → Nat → Option (List Pc × List Pc)
 | [], s => bif Nat.beq s 0 then some ([], []) else none
 | p :: ps, s => bif Nat.beq s 0 then some ([], p :: ps) else bif Nat.ble p.size s then (match takeP ps (s - p.size) with | some (qs, rest) => some (p :: qs, rest) | none => none) else none
theorem takeP_ok (ρ : Env) : ∀ {ps : List Pc} {s : Nat} {qs rest : List Pc}, pok ps → takeP ps s = some (qs, rest) → ps = qs ++ rest ∧ (lst ρ qs).length = s
 | [], s, qs, rest, _, h => by
  unfold takeP at h
  cases hb : Nat.beq s 0 with
  | true =>
   rw [hb] at h
   cases h
   exact ⟨rfl, (Nat.eq_of_beq_eq_true hb).symm⟩
  | false => rw [hb] at h; cases h
 | p :: ps, s, qs, rest, hp, h => by
  unfold takeP at h
  cases hb : Nat.beq s 0 with
  | true =>
   rw [hb] at h
   cases h
   exact ⟨rfl, (Nat.eq_of_beq_eq_true hb).symm⟩
  | false =>
   rw [hb] at h
   cases hl : Nat.ble p.size s with
   | true =>
    rw [hl] at h
    simp only [cond_false, cond_true] at h
    cases ht : takeP ps (s - p.size) with
    | none => rw [ht] at h; cases h
    | some y =>
     obtain ⟨q2, r2⟩ := y
     rw [ht] at h
     cases h
     obtain ⟨h1, h2⟩ := takeP_ok ρ (fun q hq => hp q (by simp [hq])) ht
     refine ⟨by rw [h1]; rfl, ?_⟩
     rw [lst_cons, List.length_append, Pc.len (hp p (by simp)), h2]
     have := Nat.le_of_ble_eq_true hl
     omega
   | false => rw [hl] at h; cases h
def idx (i k j : Nat) : Nat := bif Nat.beq k 1 then (bif Nat.beq j 0 then i else i + j) else i * k + j
theorem idx_eq (i k j : Nat) : idx i k j = i * k + j := by
 unfold idx
 cases hk : Nat.beq k 1 with
 | true =>
  obtain rfl := Nat.eq_of_beq_eq_true hk
  cases hj : Nat.beq j 0 with
  | true => obtain rfl := Nat.eq_of_beq_eq_true hj; simp
  | false => simp
 | false => rfl
def SV.cellL (ρ : Env) : SV → List Value
 | .lf x => [x.val ρ]
 | .agg ps => lst ρ ps
 | .un => []
def SV.pcs : SV → Option (List Pc)
 | .lf x => some [.one x]
 | .agg ps => some ps
 | .un => none
def getS (ps : List Pc) (b s : Nat) (ag : Bool) : Option (List Prop × SV) :=
 match loc ps b with
 | none => none
 | some (rs, o) =>
  bif ag then
   match (bif Nat.beq o 0 then takeP rs s else none) with
   | some (qs, _) => some ([], .agg qs)
   | none => match rs with
    | .arr A n :: _ => some ([o + s ≤ n], .agg [.arr (A.extract o (o + s)) s])
    | _ => none
  else match rs with
   | .one x :: _ => bif Nat.beq o 0 then some ([], .lf x) else none
   | .arr A n :: _ => some ([o < n], .lf (.v (A.getD o undef)))
   | _ => none
def getD (ps : List Pc) (b i k j s : Nat) (ag : Bool) : Option (List Prop × SV) :=
 match loc ps b with
 | some (.arr A n :: _, o) =>
  bif Nat.beq o 0 then
   bif ag then some ([idx i k j + s ≤ n], .agg [.arr (A.extract (idx i k j) (idx i k j + s)) s]) else some ([idx i k j < n], .lf (.v (A.getD (idx i k j) undef)))
  else none
 | some (.fnc f k2 n :: _, o) =>
  bif Nat.beq o 0 && Nat.beq k2 k then
   bif ag then bif Nat.ble (j + s) k then some ([i < n], .agg ((((f i).drop j).take s).map fun x => .one (.v x))) else none
   else match (f i)[j]? with
    | some x => some ([i < n], .lf (.v x))
    | none => none
  else none
 | _ => none
def getP (ps : List Pc) (b i k j s : Nat) (ag : Bool) : Option (List Prop × SV) := bif Nat.beq k 0 then getS ps (b + j) s ag else match getD ps b i k j s ag with
 | some r => some r
 | none => getS ps (b + i * k + j) s ag
structure GetOk (ρ : Env) (ps : List Pc) (off s : Nat) (ag : Bool) (x : SV) : Prop where
 ok : x.ok
 ids : ∀ r ∈ x.ids, r ∈ pids ps
 has : Has (lst ρ ps) (x.cellL ρ) off
 agg : ag = true → ∃ qs, x = .agg qs ∧ (lst ρ qs).length = s
 one : ag = false → ∃ l, x = .lf l
theorem pids_append (ps qs : List Pc) : pids (ps ++ qs) = pids ps ++ pids qs := by simp [pids]
theorem pok_left {ps qs : List Pc} (h : pok (ps ++ qs)) : pok ps := fun p hp => h p (by simp [hp])
theorem pok_right {ps qs : List Pc} (h : pok (ps ++ qs)) : pok qs := fun p hp => h p (by simp [hp])
theorem extract_list (A : Array Value) (o s : Nat) : (A.extract o (o + s)).toList = (A.toList.drop o).take s := by
 simp [Array.toList_extract, List.extract]
theorem getOk_arr_agg {ρ : Env} {pre rest : List Pc} {A : Array Value} {n o s : Nat} (hp : pok (pre ++ .arr A n :: rest)) (h : o + s ≤ n) :
  GetOk ρ (pre ++ .arr A n :: rest) ((lst ρ pre).length + o) s true (.agg [.arr (A.extract o (o + s)) s]) := by
 have hA : (Pc.arr A n).ok := hp _ (by simp)
 have hl : (A.extract o (o + s)).size = s := by rw [Array.size_extract, hA.1]; omega
 have hx : (lst ρ [.arr (A.extract o (o + s)) s]) = (A.toList.drop o).take s := by
  rw [← extract_list]; simp [lst, Pc.arrV]
 refine ⟨?_, ?_, ?_, fun _ => ⟨_, rfl, ?_⟩, fun h => by cases h⟩
 ·intro p hp2
  simp only [List.mem_singleton] at hp2
  subst hp2
  refine ⟨hl, fun v hv => hA.2 v ?_⟩
  rw [extract_list] at hv
  exact List.mem_of_mem_drop (List.mem_of_mem_take hv)
 ·intro r hr; simp [SV.ids, pids, Pc.ids] at hr
 ·show Has _ (lst ρ _) _
  rw [hx, lst_append, lst_cons]
  exact (has_slice (by have := hA.1; simp at this ⊢; show o + s ≤ A.size; omega)).suf.pre
 ·rw [hx, ← extract_list]; exact hl
theorem getOk_arr_one {ρ : Env} {pre rest : List Pc} {A : Array Value} {n o s : Nat} (hp : pok (pre ++ .arr A n :: rest)) (h : o < n) :
  GetOk ρ (pre ++ .arr A n :: rest) ((lst ρ pre).length + o) s false (.lf (.v (A.getD o undef))) := by
 have hA : (Pc.arr A n).ok := hp _ (by simp)
 have hv : A.toList[o]? = some (A.getD o undef) := by
  have : o < A.size := by rw [hA.1]; exact h
  simp [Array.getD, this]
 refine ⟨hA.2 _ (List.mem_of_getElem? hv), fun r hr => by simp [SV.ids, Lf.ids] at hr, ?_, nofun, fun _ => ⟨_, rfl⟩⟩
 rw [lst_append, lst_cons]
 exact (has_one hv).suf.pre
theorem getS_ok {ρ : Env} {ps : List Pc} {b s : Nat} {ag : Bool} {ob : List Prop} {x : SV} (hp : pok ps) (h : getS ps b s ag = some (ob, x)) (ho : all ob) : GetOk ρ ps b s ag x := by
 unfold getS at h
 cases hl : loc ps b with
 | none => rw [hl] at h; cases h
 | some y =>
  obtain ⟨rs, o⟩ := y
  rw [hl] at h
  obtain ⟨pre, rfl, hb⟩ := loc_ok ρ hp hl
  cases ag with
  | true =>
   simp only [cond_true] at h
   generalize ht : (bif Nat.beq o 0 then takeP rs s else none) = tk at h
   cases tk with
   | some y =>
    obtain ⟨qs, rest⟩ := y
    cases h
    cases hz : Nat.beq o 0 with
    | false => rw [hz] at ht; cases ht
    | true =>
     rw [hz] at ht
     obtain rfl := Nat.eq_of_beq_eq_true hz
     obtain ⟨rfl, hq⟩ := takeP_ok ρ (pok_right hp) ht
     refine ⟨pok_left (pok_right hp), fun r hr => by rw [pids_append, pids_append]; simp only [List.mem_append]; exact .inr (.inl hr), ?_, fun _ => ⟨qs, rfl, hq⟩, fun h => by cases h⟩
     refine ⟨lst ρ pre, lst ρ rest, ?_, by omega⟩
     show lst ρ _ = lst ρ pre ++ lst ρ qs ++ _
     rw [lst_append, lst_append, List.append_assoc]
   | none =>
    cases rs with
    | nil => cases h
    | cons p rs =>
     cases p with
     | arr A n =>
      cases h
      subst hb
      exact getOk_arr_agg hp ho.1
     | _ => cases h
  | false =>
   simp only [cond_false] at h
   cases rs with
   | nil => cases h
   | cons p rs =>
    cases p with
    | arr A n =>
     cases h
     subst hb
     exact getOk_arr_one hp ho.1
    | one y =>
     cases hz : Nat.beq o 0 with
     | false => simp only [hz] at h; cases h
     | true =>
      simp only [hz] at h
      cases h
      obtain rfl := Nat.eq_of_beq_eq_true hz
      refine ⟨(hp (.one y) (by simp) : y.ok), fun r hr => by simp [pids, Pc.ids]; exact .inr (.inl hr), ?_, nofun, fun _ => ⟨_, rfl⟩⟩
      exact ⟨lst ρ pre, lst ρ rs, by rw [lst_append, lst_cons, List.append_assoc]; rfl, by omega⟩
    | fnc f k n => cases h
theorem flat_split {f : Nat → List Value} {k : Nat} : ∀ (n i : Nat), i < n → (∀ q, q < n → (f q).length = k) → ∃ X Y, (List.range n).flatMap f = X ++ f i ++ Y ∧ X.length = i * k
 | 0, i, h, _ => by omega
 | n + 1, i, h, hk => by
  have hlen : ∀ m, m ≤ n + 1 → ((List.range m).flatMap f).length = m * k := by
   intro m
   induction m with
   | zero => intro _; simp
   | succ m ih =>
    intro hm
    rw [List.range_succ, List.flatMap_append, List.length_append, ih (by omega)]
    simp [hk m (by omega), Nat.succ_mul]
  rw [List.range_succ, List.flatMap_append]
  by_cases hi : i = n
  ·subst hi
   exact ⟨(List.range i).flatMap f, [], by simp, hlen i (by omega)⟩
  ·obtain ⟨X, Y, h1, h2⟩ := flat_split n i (by omega) (fun q hq => hk q (by omega))
   exact ⟨X, Y ++ [n].flatMap f, by rw [h1]; simp [List.append_assoc], h2⟩
theorem getD_ok {ρ : Env} {ps : List Pc} {b i k j s : Nat} {ag : Bool} {ob : List Prop} {x : SV} (hp : pok ps) (h : getD ps b i k j s ag = some (ob, x)) (ho : all ob) : GetOk ρ ps (b + i * k + j) s ag x := by
 unfold getD at h
 cases hl : loc ps b with
 | none => rw [hl] at h; cases h
 | some y =>
  obtain ⟨rs, o⟩ := y
  rw [hl] at h
  obtain ⟨pre, rfl, hb⟩ := loc_ok ρ hp hl
  cases rs with
  | nil => cases h
  | cons p rs =>
   cases p with
   | one y => cases h
   | arr A n =>
    cases hz : Nat.beq o 0 with
    | false => simp only [hz] at h; cases h
    | true =>
     simp only [hz, cond_true] at h
     obtain rfl := Nat.eq_of_beq_eq_true hz
     rw [show b + i * k + j = (lst ρ pre).length + idx i k j by rw [idx_eq]; omega]
     cases ag with
     | true => cases h; exact getOk_arr_agg hp ho.1
     | false => cases h; exact getOk_arr_one hp ho.1
   | fnc f k2 n =>
    cases hz : Nat.beq o 0 && Nat.beq k2 k with
    | false => simp only [hz] at h; cases h
    | true =>
     simp only [hz, cond_true] at h
     rw [Bool.and_eq_true] at hz
     obtain ⟨hz, hk2⟩ := hz
     obtain rfl := Nat.eq_of_beq_eq_true hz
     obtain rfl := Nat.eq_of_beq_eq_true hk2
     have hF : (Pc.fnc f k2 n).ok := hp _ (by simp)
     cases ag with
     | true =>
      simp only [cond_true] at h
      cases hs : Nat.ble (j + s) k2 with
      | false => rw [hs] at h; cases h
      | true =>
       rw [hs] at h
       cases h
       have hi := ho.1
       have hs2 := Nat.le_of_ble_eq_true hs
       obtain ⟨X, Y, h1, h2⟩ := flat_split n i hi (fun q hq => (hF q hq).1)
       have hx : lst ρ ((((f i).drop j).take s).map fun x => Pc.one (.v x)) = ((f i).drop j).take s := by
        generalize ((f i).drop j).take s = l
        clear h1
        induction l with
        | nil => rfl
        | cons v l ih => rw [List.map_cons, lst_cons, ih]; rfl
       refine ⟨?_, ?_, ?_, fun _ => ⟨_, rfl, ?_⟩, fun h => by cases h⟩
       ·intro p hp2
        obtain ⟨v, hv, rfl⟩ := List.mem_map.1 hp2
        exact (hF i hi).2 v (List.mem_of_mem_drop (List.mem_of_mem_take hv))
       ·intro r hr
        simp only [SV.ids, pids, List.mem_flatMap, List.mem_map] at hr
        obtain ⟨_, ⟨v, _, rfl⟩, hr⟩ := hr
        cases hr
       ·show Has _ (lst ρ _) _
        rw [hx, lst_append, lst_cons, show b + i * k2 + j = (lst ρ pre).length + (i * k2 + j) by omega]
        refine Has.pre (Has.suf ?_)
        show Has ((List.range n).flatMap f) _ _
        rw [h1, ← h2, List.append_assoc]
        exact (has_slice (by rw [(hF i hi).1]; exact hs2)).suf.pre
       ·rw [hx, List.length_take, List.length_drop, (hF i hi).1]; omega
     | false =>
      simp only [cond_false] at h
      cases hv : (f i)[j]? with
      | none => rw [hv] at h; cases h
      | some v =>
       rw [hv] at h
       cases h
       have hi := ho.1
       obtain ⟨X, Y, h1, h2⟩ := flat_split n i hi (fun q hq => (hF q hq).1)
       refine ⟨(hF i hi).2 v (List.mem_of_getElem? hv), fun r hr => by simp [SV.ids, Lf.ids] at hr, ?_, nofun, fun _ => ⟨_, rfl⟩⟩
       rw [lst_append, lst_cons, show b + i * k2 + j = (lst ρ pre).length + (i * k2 + j) by omega]
       refine Has.pre (Has.suf ?_)
       show Has ((List.range n).flatMap f) _ _
       rw [h1, ← h2, List.append_assoc]
       exact (has_one hv).suf.pre
theorem getP_ok {ρ : Env} {ps : List Pc} {b i k j s : Nat} {ag : Bool} {ob : List Prop} {x : SV} (hp : pok ps) (h : getP ps b i k j s ag = some (ob, x)) (ho : all ob) : GetOk ρ ps (b + i * k + j) s ag x := by
 unfold getP at h
 cases hk : Nat.beq k 0 with
 | true =>
  rw [hk] at h
  obtain rfl := Nat.eq_of_beq_eq_true hk
  have := getS_ok (ρ := ρ) hp h ho
  simpa using this
 | false =>
  rw [hk] at h
  simp only [cond_false] at h
  split at h
  ·rename_i r hr
   cases h
   exact getD_ok hp hr ho
  ·exact getS_ok (ρ := ρ) hp h ho
end Go.Proofs.YtdbbcngolcnniaaGreatDoor.E
/- Writing cells of a symbolic row. No condition. -/
namespace Go.Proofs.YtdbbcngolcnniaaGreatDoor.E
open Go Go.RowKit
set_option linter.unusedVariables false
set_option linter.unusedSimpArgs false
def vals : List Pc → Option (List Value)
 | [] => some []
 | .one (.v x) :: ps => (vals ps).map (x :: ·)
 | .arr A _ :: ps => (vals ps).map (A.toList ++ ·)
 | _ => none
theorem vals_ok (ρ : Env) : ∀ {ps : List Pc} {l : List Value}, vals ps = some l → lst ρ ps = l
 | [], l, h => by cases h; rfl
 | p :: ps, l, h => by
  cases p with
  | one x =>
   cases x with
   | v x =>
    unfold vals at h
    cases hv : vals ps with
    | none => rw [hv] at h; cases h
    | some m => rw [hv] at h; cases h; rw [lst_cons, vals_ok ρ hv]; rfl
   | _ => cases h
  | arr A n =>
   unfold vals at h
   cases hv : vals ps with
   | none => rw [hv] at h; cases h
   | some m => rw [hv] at h; cases h; rw [lst_cons, vals_ok ρ hv]; rfl
  | fnc f k n => cases h
def splice (A : Array Value) (o : Nat) (B : Array Value) : Array Value := (A.toList.take o ++ B.toList ++ A.toList.drop (o + B.size)).toArray
def writeA (A : Array Value) (o : Nat) : List Pc → Option (Array Value)
 | [.one (.v x)] => some (A.setIfInBounds o x)
 | [.arr B _] => some (splice A o B)
 | l => (vals l).map fun l => splice A o l.toArray
theorem repl_splice {A : Array Value} {o : Nat} {B : Array Value} (h : o + B.size ≤ A.size) : Repl A.toList (splice A o B).toList B.toList o := by
 refine ⟨A.toList.take o, (A.toList.drop o).take B.size, A.toList.drop (o + B.size), ?_, ?_, rfl, by simp; omega⟩
 ·rw [List.append_assoc, ← List.drop_drop, List.take_append_drop, List.take_append_drop]
 ·simp; omega
theorem writeA_ok {ρ : Env} {A B : Array Value} {o s : Nat} {new : List Pc} (h : writeA A o new = some B) (hl : (lst ρ new).length = s) (ho : o + s ≤ A.size) : Repl A.toList B.toList (lst ρ new) o := by
 subst hl
 have hgen : ∀ l, vals new = some l → B = splice A o l.toArray → Repl A.toList B.toList (lst ρ new) o := by
  intro l hv hB
  rw [vals_ok ρ hv] at ho ⊢
  subst hB
  exact repl_splice (B := l.toArray) (by simpa using ho)
 have hval : ∀ l : List Pc, (vals l).map (fun l => splice A o l.toArray) = some B → l = new → Repl A.toList B.toList (lst ρ new) o := by
  intro l h2 e
  subst e
  cases hv : vals l with
  | none => rw [hv] at h2; cases h2
  | some m => rw [hv] at h2; cases h2; exact hgen m hv rfl
 unfold writeA at h
 split at h
 ·cases h
  rename_i x
  have : lst ρ [.one (.v x)] = [x] := rfl
  rw [this] at ho ⊢
  rw [Array.toList_setIfInBounds]
  exact repl_set (by have : o + 1 ≤ A.size := ho; simp; omega)
 ·cases h
  rename_i B' m
  have : lst ρ [.arr B' m] = B'.toList := by simp [lst, Pc.arrV]
  rw [this] at ho ⊢
  exact repl_splice (by simpa using ho)
 ·exact hval _ h rfl
def putIn (p : Pc) (o s : Nat) (new : List Pc) : Option (List Prop × Pc) :=
 match p with
 | .arr A n => match writeA A o new with
  | some B => some ([o + s ≤ n], .arr B n)
  | none => none
 | _ => none
def putS : List Pc → Nat → Nat → List Pc → Option (List Prop × List Pc)
 | [], 0, 0, [] => some ([], [])
 | [], _, _, _ => none
 | p :: ps, b, s, new =>
  bif Nat.beq b 0 then
   match takeP (p :: ps) s with
   | some (_, rest) => some ([], new ++ rest)
   | none => match putIn p 0 s new with
    | some (o, q) => some (o, q :: ps)
    | none => none
  else bif Nat.ble p.size b then
   match putS ps (b - p.size) s new with
   | some (o, qs) => some (o, p :: qs)
   | none => none
  else match putIn p b s new with
   | some (o, q) => some (o, q :: ps)
   | none => none
def updF (f : Nat → List Value) (i : Nat) (l : List Value) : Nat → List Value := fun q => bif Nat.beq q i then l else f q
def putFn (f : Nat → List Value) (k n i j s : Nat) (new : List Pc) : Option (List Prop × Pc) :=
 match new with
 | [.one (.v x)] => bif Nat.ble (j + 1) k then some ([i < n], .fnc (updF f i ((f i).set j x)) k n) else none
 | new => match vals new with
  | some l => bif Nat.beq j 0 && Nat.beq s k then some ([i < n], .fnc (updF f i l) k n) else none
  | none => none
def putD : List Pc → Nat → Nat → Nat → Nat → Nat → List Pc → Option (List Prop × List Pc)
 | [], _, _, _, _, _, _ => none
 | p :: ps, b, i, k, j, s, new =>
  bif Nat.beq b 0 then
   match p with
   | .arr A n => match putIn (.arr A n) (idx i k j) s new with
    | some (o, q) => some (o, q :: ps)
    | none => none
   | .fnc f k2 n => bif Nat.beq k2 k then match putFn f k n i j s new with
    | some (o, q) => some (o, q :: ps)
    | none => none else none
   | _ => none
  else bif Nat.ble p.size b then
   match putD ps (b - p.size) i k j s new with
   | some (o, qs) => some (o, p :: qs)
   | none => none
  else none
def putP (ps : List Pc) (b i k j s : Nat) (new : List Pc) : Option (List Prop × List Pc) := bif Nat.beq k 0 then putS ps (b + j) s new else putD ps b i k j s new
structure PutOk (ρ : Env) (ps ps' : List Pc) (off : Nat) (new : List Pc) : Prop where
 ok : pok ps'
 ids : ∀ r ∈ pids ps', r ∈ pids ps ∨ r ∈ pids new
 repl : Repl (lst ρ ps) (lst ρ ps') (lst ρ new) off
theorem pok_cons {p : Pc} {ps : List Pc} : pok (p :: ps) ↔ p.ok ∧ pok ps := by simp [pok]
theorem pids_cons (p : Pc) (ps : List Pc) : pids (p :: ps) = p.ids ++ pids ps := rfl
theorem Repl.one_of {L L' N : List Value} {off : Nat} (h : Repl L L' N off) : ∀ v ∈ L', v ∈ L ∨ v ∈ N := by
 obtain ⟨X, O, Y, rfl, _, rfl, _⟩ := h
 intro v hv
 simp at hv ⊢
 rcases hv with h | h | h <;> simp [h]
theorem Repl.len {L L' N : List Value} {off : Nat} (h : Repl L L' N off) : L'.length = L.length := by
 obtain ⟨X, O, Y, rfl, h1, rfl, _⟩ := h
 simp [h1]
theorem putIn_ok {ρ : Env} {p q : Pc} {ps : List Pc} {o s : Nat} {new : List Pc} {ob : List Prop} (hp : pok (p :: ps)) (hn : pok new) (hl : (lst ρ new).length = s) (h : putIn p o s new = some (ob, q)) (ho : all ob) : PutOk ρ (p :: ps) (q :: ps) o new := by
 unfold putIn at h
 cases p with
 | arr A n =>
  simp only at h
  cases hw : writeA A o new with
  | none => rw [hw] at h; cases h
  | some B =>
   rw [hw] at h
   cases h
   have hA := (pok_cons.1 hp).1
   have hr := writeA_ok (ρ := ρ) hw hl (by rw [hA.1]; exact ho.1)
   refine ⟨pok_cons.2 ⟨⟨?_, ?_⟩, (pok_cons.1 hp).2⟩, fun r hr => .inl hr, ?_⟩
   ·have := hr.len; simp at this; rw [this]; exact hA.1
   ·intro v hv
    rcases hr.one_of v hv with h | h
    ·exact hA.2 v h
    ·exact lst_one hn v h
   ·rw [lst_cons, lst_cons]
    exact hr.suf
 | one x => cases h
 | fnc f k n => cases h
theorem PutOk.cons {ρ : Env} {p : Pc} {ps qs : List Pc} {off : Nat} {new : List Pc} (hp : p.ok) (h : PutOk ρ ps qs off new) : PutOk ρ (p :: ps) (p :: qs) (p.size + off) new := by
 refine ⟨pok_cons.2 ⟨hp, h.ok⟩, fun r hr => ?_, ?_⟩
 ·rw [pids_cons, List.mem_append] at hr ⊢
  rcases hr with hr | hr
  ·exact .inl (.inl hr)
  ·exact (h.ids r hr).imp .inr id
 ·rw [lst_cons, lst_cons, ← Pc.len (ρ := ρ) hp]
  exact h.repl.pre
theorem putS_ok {ρ : Env} {new : List Pc} {s : Nat} (hn : pok new) (hl : (lst ρ new).length = s) : ∀ {ps ps' : List Pc} {b : Nat} {ob : List Prop}, pok ps → putS ps b s new = some (ob, ps') → all ob → PutOk ρ ps ps' b new
 | [], ps', b, ob, hp, h, _ => by
  unfold putS at h
  split at h
  ·cases h
   exact ⟨hp, fun r hr => .inl hr, ⟨[], [], [], rfl, rfl, rfl, rfl⟩⟩
  ·cases h
  ·rename_i h1; cases h1
 | p :: ps, ps', b, ob, hp, h, ho => by
  unfold putS at h
  cases hb : Nat.beq b 0 with
  | true =>
   rw [hb] at h
   simp only [cond_true] at h
   obtain rfl := Nat.eq_of_beq_eq_true hb
   cases ht : takeP (p :: ps) s with
   | some y =>
    obtain ⟨qs, rest⟩ := y
    rw [ht] at h
    cases h
    obtain ⟨h1, h2⟩ := takeP_ok ρ hp ht
    rw [h1] at hp ⊢
    refine ⟨fun q hq => ?_, fun r hr => ?_, ?_⟩
    ·rcases List.mem_append.1 hq with h | h
     ·exact hn q h
     ·exact pok_right hp q h
    ·rw [pids_append, List.mem_append] at hr ⊢
     rcases hr with h | h
     ·exact .inr h
     ·exact .inl (.inr h)
    ·rw [lst_append, lst_append]
     exact ⟨[], lst ρ qs, lst ρ rest, by simp, by omega, by simp, rfl⟩
   | none =>
    rw [ht] at h
    simp only at h
    cases hi : putIn p 0 s new with
    | none => rw [hi] at h; cases h
    | some y =>
     obtain ⟨o, q⟩ := y
     rw [hi] at h
     cases h
     exact putIn_ok hp hn hl hi ho
  | false =>
   rw [hb] at h
   simp only [cond_false] at h
   cases hz : Nat.ble p.size b with
   | true =>
    rw [hz] at h
    simp only [cond_true] at h
    cases hr : putS ps (b - p.size) s new with
    | none => rw [hr] at h; cases h
    | some y =>
     obtain ⟨o, qs⟩ := y
     rw [hr] at h
     cases h
     have := (putS_ok hn hl (pok_cons.1 hp).2 hr ho).cons (pok_cons.1 hp).1
     rwa [show p.size + (b - p.size) = b by have := Nat.le_of_ble_eq_true hz; omega] at this
   | false =>
    rw [hz] at h
    simp only [cond_false] at h
    cases hi : putIn p b s new with
    | none => rw [hi] at h; cases h
    | some y =>
     obtain ⟨o, q⟩ := y
     rw [hi] at h
     cases h
     exact putIn_ok hp hn hl hi ho
theorem flat_upd {f : Nat → List Value} {k : Nat} {i : Nat} {l : List Value} : ∀ (n : Nat), i < n → (∀ q, q < n → (f q).length = k) → ∃ X Y, (List.range n).flatMap f = X ++ f i ++ Y ∧ (List.range n).flatMap (updF f i l) = X ++ l ++ Y ∧ X.length = i * k
 | 0, h, _ => by omega
 | n + 1, h, hk => by
  have hsame : ∀ m, m ≤ i → (List.range m).flatMap (updF f i l) = (List.range m).flatMap f := by
   intro m
   induction m with
   | zero => intro _; rfl
   | succ m ih =>
    intro hm
    rw [List.range_succ, List.flatMap_append, List.flatMap_append, ih (by omega)]
    have : updF f i l m = f m := by
     unfold updF
     rw [show Nat.beq m i = false by cases hq : Nat.beq m i with | false => rfl | true => have := Nat.eq_of_beq_eq_true hq; omega]
     rfl
    simp [this]
  rw [List.range_succ, List.flatMap_append, List.flatMap_append]
  by_cases hi : i = n
  ·subst hi
   obtain ⟨X, Y, h1, h2⟩ := flat_split (i + 1) i (by omega) hk
   have hlen : ((List.range i).flatMap f).length = i * k := by
    clear h1 h2 hsame X Y
    have : ∀ m, m ≤ i → ((List.range m).flatMap f).length = m * k := by
     intro m
     induction m with
     | zero => intro _; simp
     | succ m ih =>
      intro hm
      rw [List.range_succ, List.flatMap_append, List.length_append, ih (by omega)]
      simp [hk m (by omega), Nat.succ_mul]
    exact this i (Nat.le_refl i)
   refine ⟨(List.range i).flatMap f, [], by simp, ?_, hlen⟩
   rw [hsame i (Nat.le_refl i)]
   simp [updF]
  ·obtain ⟨X, Y, h1, h2, h3⟩ := flat_upd (i := i) (l := l) n (by omega) (fun q hq => hk q (by omega))
   refine ⟨X, Y ++ [n].flatMap f, by rw [h1]; simp [List.append_assoc], ?_, h3⟩
   rw [h2]
   have : updF f i l n = f n := by
    unfold updF
    rw [show Nat.beq n i = false by cases hq : Nat.beq n i with | false => rfl | true => have := Nat.eq_of_beq_eq_true hq; omega]
    rfl
   simp [this, List.append_assoc]
theorem fnc_upd_ok {ρ : Env} {f : Nat → List Value} {k n i j : Nat} {l N : List Value} {ps : List Pc} (hp : pok (.fnc f k n :: ps)) (hi : i < n) (hl : l.length = k) (h1 : ∀ v ∈ l, v.oneCell' = true) (hR : Repl (f i) l N j) {new : List Pc} (hN : lst ρ new = N) :
  PutOk ρ (.fnc f k n :: ps) (.fnc (updF f i l) k n :: ps) (i * k + j) new := by
 have hF := (pok_cons.1 hp).1
 refine ⟨pok_cons.2 ⟨fun q hq => ?_, (pok_cons.1 hp).2⟩, fun r hr => .inl hr, ?_⟩
 ·unfold updF
  cases hb : Nat.beq q i with
  | true => exact ⟨hl, h1⟩
  | false => exact hF q hq
 ·rw [lst_cons, lst_cons, hN]
  refine Repl.suf ?_
  show Repl ((List.range n).flatMap f) ((List.range n).flatMap (updF f i l)) N _
  obtain ⟨X, Y, e1, e2, e3⟩ := flat_upd (l := l) n hi (fun q hq => (hF q hq).1)
  rw [e1, e2, ← e3, List.append_assoc, List.append_assoc]
  exact hR.suf.pre
theorem putFn_ok {ρ : Env} {f : Nat → List Value} {k n i j s : Nat} {new : List Pc} {q : Pc} {ps : List Pc} {ob : List Prop} (hp : pok (.fnc f k n :: ps)) (hn : pok new) (hl : (lst ρ new).length = s) (h : putFn f k n i j s new = some (ob, q)) (ho : all ob) : PutOk ρ (.fnc f k n :: ps) (q :: ps) (i * k + j) new := by
 have hF := (pok_cons.1 hp).1
 have hgen : ∀ l, vals new = some l → (bif Nat.beq j 0 && Nat.beq s k then some (([i < n] : List Prop), Pc.fnc (updF f i l) k n) else none) = some (ob, q) → PutOk ρ (.fnc f k n :: ps) (q :: ps) (i * k + j) new := by
  intro l hv h
  cases hz : Nat.beq j 0 && Nat.beq s k with
  | false => rw [hz] at h; cases h
  | true =>
   rw [hz] at h
   cases h
   rw [Bool.and_eq_true] at hz
   obtain ⟨hz, hk2⟩ := hz
   obtain rfl := Nat.eq_of_beq_eq_true hz
   obtain rfl := Nat.eq_of_beq_eq_true hk2
   have hvl := vals_ok ρ hv
   rw [hvl] at hl
   refine fnc_upd_ok hp ho.1 hl (fun v hv => lst_one hn v (by rw [hvl]; exact hv)) ⟨[], f i, [], by simp, by rw [hl, (hF i ho.1).1], by simp, rfl⟩ hvl
 unfold putFn at h
 split at h
 ·rename_i x
  cases hz : Nat.ble (j + 1) k with
  | false => rw [hz] at h; cases h
  | true =>
   rw [hz] at h
   cases h
   have hj := Nat.le_of_ble_eq_true hz
   have hi := hF i ho.1
   refine fnc_upd_ok hp ho.1 (by rw [List.length_set]; exact hi.1) (fun v hv => ?_) (repl_set (by rw [hi.1]; omega)) rfl
   rcases List.mem_or_eq_of_mem_set hv with h | h
   ·exact hi.2 v h
   ·subst h; exact lst_one (ρ := ρ) hn v (by simp [lst, Pc.arrV, Lf.val])
 ·cases hv : vals new with
  | none => rw [hv] at h; cases h
  | some l => rw [hv] at h; exact hgen l hv h
theorem putD_ok {ρ : Env} {new : List Pc} {s i k j : Nat} (hn : pok new) (hl : (lst ρ new).length = s) : ∀ {ps ps' : List Pc} {b : Nat} {ob : List Prop}, pok ps → putD ps b i k j s new = some (ob, ps') → all ob → PutOk ρ ps ps' (b + i * k + j) new
 | [], _, _, _, _, h, _ => by cases h
 | p :: ps, ps', b, ob, hp, h, ho => by
  unfold putD at h
  cases hb : Nat.beq b 0 with
  | true =>
   rw [hb] at h
   simp only [cond_true] at h
   obtain rfl := Nat.eq_of_beq_eq_true hb
   cases p with
   | one x => cases h
   | arr A n =>
    simp only at h
    cases hi : putIn (.arr A n) (idx i k j) s new with
    | none => rw [hi] at h; cases h
    | some y =>
     obtain ⟨o, q⟩ := y
     rw [hi] at h
     cases h
     have := putIn_ok hp hn hl hi ho
     rw [idx_eq] at this
     simpa using this
   | fnc f k2 n =>
    simp only at h
    cases hk : Nat.beq k2 k with
    | false => rw [hk] at h; cases h
    | true =>
     rw [hk] at h
     obtain rfl := Nat.eq_of_beq_eq_true hk
     simp only [cond_true] at h
     cases hi : putFn f k2 n i j s new with
     | none => rw [hi] at h; cases h
     | some y =>
      obtain ⟨o, q⟩ := y
      rw [hi] at h
      cases h
      have := putFn_ok hp hn hl hi ho
      simpa using this
  | false =>
   rw [hb] at h
   simp only [cond_false] at h
   cases hz : Nat.ble p.size b with
   | false => rw [hz] at h; cases h
   | true =>
    rw [hz] at h
    simp only [cond_true] at h
    cases hr : putD ps (b - p.size) i k j s new with
    | none => rw [hr] at h; cases h
    | some y =>
     obtain ⟨o, qs⟩ := y
     rw [hr] at h
     cases h
     have := (putD_ok hn hl (pok_cons.1 hp).2 hr ho).cons (pok_cons.1 hp).1
     rwa [show p.size + (b - p.size + i * k + j) = b + i * k + j by have := Nat.le_of_ble_eq_true hz; omega] at this
theorem putP_ok {ρ : Env} {new : List Pc} {s i k j : Nat} {ps ps' : List Pc} {b : Nat} {ob : List Prop} (hn : pok new) (hl : (lst ρ new).length = s) (hp : pok ps) (h : putP ps b i k j s new = some (ob, ps')) (ho : all ob) : PutOk ρ ps ps' (b + i * k + j) new := by
 unfold putP at h
 cases hk : Nat.beq k 0 with
 | true =>
  rw [hk] at h
  obtain rfl := Nat.eq_of_beq_eq_true hk
  have := putS_ok (ρ := ρ) hn hl hp h ho
  simpa using this
 | false => rw [hk] at h; exact putD_ok hn hl hp h ho
end Go.Proofs.YtdbbcngolcnniaaGreatDoor.E
/- What one operation does to a symbolic state. No condition. -/
namespace Go.Proofs.YtdbbcngolcnniaaGreatDoor.E
open Go Go.RowKit
set_option linter.unusedVariables false
set_option linter.unusedSimpArgs false
structure Eff where
 obl : List Prop
 val : TV
 puts : List (Nat × Row)
 dels : List Nat
structure CallI where
 f : FuncId
 args : Env → Array Value
 res : TV
 pre : List (Nat × Row)
 put : List (Nat × Row)
 made : Option Row
 dels : List Nat := []
inductive Hint where
 | call (c : CallI)
 | b (x : Bool)
 | val (x : TV)
 | ext (f : FuncId) (args : Array Value) (res : TV)
 | as (r k n c : Nat)
 | look (ty : TypeId) (m k : Value) (res : TV)
 | callW (c : CallI)
abbrev Hints := Nat → Option Hint
def hC (C : Hints) (id : Nat) : Option CallI := match C id with
 | some (.call c) => some c
 | some (.callW c) => some c
 | _ => none
def hX (C : Hints) (id : Nat) : Option (FuncId × Array Value × TV) := match C id with
 | some (.ext f a r) => some (f, a, r)
 | _ => none
def hL (C : Hints) (id : Nat) : Option (TypeId × Value × Value × TV) := match C id with
 | some (.look ty m k res) => some (ty, m, k, res)
 | _ => none
def hB (C : Hints) (id : Nat) : Option Bool := match C (1000000 + id) with
 | some (.b x) => some x
 | _ => none
def hA (C : Hints) (id : Nat) : Option (Nat × Nat × Nat × Nat) := match C (3000000 + id) with
 | some (.as r k n c) => some (r, k, n, c)
 | _ => none
def hV (C : Hints) (id : Nat) : Option TV := match C (2000000 + id) with
 | some (.val x) => some x
 | _ => none
structure Post (ρ ρ' : Env) (id : Nat) (e : Eff) (w w' : World) : Prop where
 ok : e.val.ok
 env : ∀ r, r ≠ id → ρ' r = ρ r
 fr : Fr w ((e.puts.filter fun p => !(p.1 == id)).map (fun p => (ρ p.1).1) ++ e.dels.map fun r => (ρ r).1) w'
 puts : ∀ p ∈ e.puts, RowAt ρ' p.1 p.2 w' ∧ pok p.2.ps
 new : ∀ p ∈ e.puts, p.1 = id → w.heap.size ≤ (ρ' id).1 ∨ ∃ r ∈ e.dels, (ρ' id).1 = (ρ r).1
theorem post_pure {ρ : Env} {id : Nat} {x : TV} {w : World} {ob : List Prop} (h : x.ok) : Post ρ ρ id ⟨ob, x, [], []⟩ w w :=
 ⟨h, fun _ _ => rfl, Fr.refl _ _, (fun p hp => by cases hp), (fun p hp => by cases hp)⟩
def setE (ρ : Env) (id : Nat) (x : Blk) : Env := fun r => bif Nat.beq r id then x else ρ r
theorem setE_same (ρ : Env) (id : Nat) (x : Blk) : setE ρ id x id = x := by simp [setE]
theorem setE_ne (ρ : Env) {id r : Nat} (x : Blk) (h : r ≠ id) : setE ρ id x r = ρ r := by
 unfold setE
 cases hb : Nat.beq r id with
 | true => exact absurd (Nat.eq_of_beq_eq_true hb) h
 | false => rfl
theorem post_new {ρ : Env} {id : Nat} {w : World} {ob : List Prop} {ps : List Pc} {A : Array Value} {t : TypeId} {x : TV} (hx : x.ok) (hp : pok ps) (hi : id ∉ pids ps) (hA : A.toList = lst ρ ps) :
  Post ρ (setE ρ id ⟨w.heap.size, 0, 0⟩) id ⟨ob, x, [(id, ⟨ps, true, none⟩)], []⟩ w (w.alloc (.cells A t)) := by
 refine ⟨hx, fun r hr => setE_ne ρ _ hr, Fr.of_below ((Below.refl _ w).alloc (Nat.le_refl _) _) _, fun p hp2 => ?_, fun p hp2 _ => by rw [setE_same]; exact .inl (Nat.le_refl _)⟩
 simp only [List.mem_singleton] at hp2
 subst hp2
 refine ⟨⟨?_, fun j v hv => ?_, (fun e k h => by cases h), by rw [setE_same]; exact ⟨A, t, (0, 0), Go.heap_alloc_new w _⟩⟩, hp⟩
 ·rw [setE_same]; simp
 ·rw [setE_same]
  simp only at hv
  rw [lst_congr (σ := ρ) (fun r hr => setE_ne ρ _ (by rintro rfl; exact hi hr)), ← hA] at hv
  refine ⟨?_, fun _ => frozen_alloc_new⟩
  rw [show (0 : Nat) + j = j by omega, cell_alloc_new]
  simpa using hv
def PreDs (ρ : Env) (pre : List (Nat × Row)) : Prop := ∀ p ∈ pre, ∀ q ∈ pre, p.1 ≠ q.1 → p.2.w = true → (ρ p.1).1 ≠ (ρ q.1).1
def CallOk (P : Program) (id : Nat) (c : CallI) : Prop :=
 c.res.ok ∧ (∀ p ∈ c.put, p.1 ≠ id) ∧ (∀ args w, (callFunc c.f args).run P w = .ok (.enter c.f args) w) ∧ ∀ (ρ : Env) (w : World), (∀ p ∈ c.pre, RowAt ρ p.1 p.2 w) → PreDs ρ c.pre →
  Calls P c.f (c.args ρ) w fun e w' => ∃ ρ', e = .returned (c.res.val ρ') ∧ Post ρ ρ' id ⟨[], c.res, c.put ++ (c.made.map fun r => (id, r)).toList, c.dels⟩ w w'
def CallAt (P : Program) (id : Nat) (c : CallI) (w : World) (ρ : Env) : Prop :=
 c.res.ok ∧ (∀ p ∈ c.put, p.1 ≠ id) ∧ (∀ args w, (callFunc c.f args).run P w = .ok (.enter c.f args) w) ∧ ((∀ p ∈ c.pre, RowAt ρ p.1 p.2 w) → PreDs ρ c.pre →
  Calls P c.f (c.args ρ) w fun e w' => ∃ ρ', e = .returned (c.res.val ρ') ∧ Post ρ ρ' id ⟨[], c.res, c.put ++ (c.made.map fun r => (id, r)).toList, c.dels⟩ w w')
theorem callAt {P : Program} {id : Nat} {c : CallI} (h : CallOk P id c) (w : World) (ρ : Env) : CallAt P id c w ρ := ⟨h.1, h.2.1, h.2.2.1, h.2.2.2 ρ w⟩
def HintOk (P : Program) (id : Nat) : Hint → Prop
 | .call c => CallOk P id c
 | .ext f args res => res.ok ∧ ∀ (ρ : Env) (w : World), (callFunc f args).run P w = .ok (.value (res.val ρ)) w
 | .look .. => False
 | .callW _ => False
 | _ => True
def HintAt (P : Program) (w0 : World) (wr : Bs) (id : Nat) : Hint → Prop
 | .look ty m k res => res.ok ∧ ∀ (ρ : Env) (w : World), KeepsOthers w0 w → (Instr.lookup ty m k true).run P w = .ok (res.val ρ) w
 | .callW c => ∀ w ρ, KeepsOthers w0 w → Fr w0 wr.l w → (∀ r, (r < 1000 ∨ r ∈ wr.k) → ρ r = wr.e r) → CallAt P id c w ρ
 | h => HintOk P id h
theorem hintAt {P : Program} {w0 : World} {wr : Bs} {id : Nat} {h : Hint} (H : HintOk P id h) : HintAt P w0 wr id h := by
 cases h with
 | look ty m k res => exact H.elim
 | callW c => exact H.elim
 | _ => exact H
theorem hintOk_ext {P : Program} {w0 : World} {wr : Bs} {C : Hints} (h : ∀ id c, C id = some c → HintAt P w0 wr id c) {id : Nat} {f : FuncId} {args : Array Value} {res : TV} (hc : hX C id = some (f, args, res)) : res.ok ∧ ∀ (ρ : Env) (w : World), (callFunc f args).run P w = .ok (.value (res.val ρ)) w := by
 unfold hX at hc
 split at hc
 ·rename_i f2 a2 r2 h2
  cases hc
  exact h id _ h2
 ·cases hc
theorem hintOk_call {P : Program} {w0 : World} {wr : Bs} {C : Hints} (h : ∀ id c, C id = some c → HintAt P w0 wr id c) {id : Nat} {c : CallI} (hc : hC C id = some c) {w : World} {ρ : Env} (hw : KeepsOthers w0 w) (hf : Fr w0 wr.l w) (he : ∀ r, (r < 1000 ∨ r ∈ wr.k) → ρ r = wr.e r) : CallAt P id c w ρ := by
 unfold hC at hc
 split at hc
 ·rename_i c2 h2
  cases hc
  exact callAt (h id _ h2) w ρ
 ·rename_i c2 h2
  cases hc
  exact h id _ h2 w ρ hw hf he
 ·cases hc
theorem hintOk_look {P : Program} {w0 : World} {wr : Bs} {C : Hints} (h : ∀ id c, C id = some c → HintAt P w0 wr id c) {id : Nat} {ty : TypeId} {m k : Value} {res : TV} (hc : hL C id = some (ty, m, k, res)) : res.ok ∧ ∀ (ρ : Env) (w : World), KeepsOthers w0 w → (Instr.lookup ty m k true).run P w = .ok (res.val ρ) w := by
 unfold hL at hc
 split at hc
 ·rename_i ty2 m2 k2 r2 h2
  cases hc
  exact h id _ h2
 ·cases hc
def isRow : TypeDesc → Bool
 | .struct _ | .array _ _ => true
 | _ => false
def tyI (P : Program) (t : TypeId) : Option (Nat × Bool) :=
 match P.underlying t, P.info? t with
 | some d, some i => some (i.size, isRow d)
 | _, _ => none
theorem tyI_ok {P : Program} {t : TypeId} {sz : Nat} {ag : Bool} (h : tyI P t = some (sz, ag)) : ∃ d i, P.underlying t = some d ∧ P.info? t = some i ∧ i.size = sz ∧ isRow d = ag := by
 unfold tyI at h
 split at h
 ·rename_i d i h1 h2
  cases h
  exact ⟨d, i, h1, h2, rfl, rfl⟩
 ·cases h
theorem run_isAgg {P : Program} {t : TypeId} {d : TypeDesc} (h : P.underlying t = some d) (w : World) : (isAgg t).run P w = .ok (isRow d) w := by
 unfold isAgg
 rw [Sem.run_bind, run_underlying h w]
 cases d <;> rfl
theorem getOk_load {ρ : Env} {P : Program} {t : TypeId} {sz : Nat} {ag : Bool} {r b i k j : Nat} {row : Row} {w : World} {x : SV} (ht : tyI P t = some (sz, ag)) (hr : RowAt ρ r row w) (h : GetOk ρ row.ps (b + i * k + j) sz ag x) :
  (loadVar t ⟨(ρ r).1, (ρ r).2 + (b + i * k + j), none⟩).run P w = .ok (x.val ρ) w := by
 obtain ⟨d, ti, h1, h2, h3, h4⟩ := tyI_ok ht
 have hc : ∀ q v, (x.cellL ρ)[q]? = some v → w.cell? ⟨(ρ r).1, (ρ r).2 + (b + i * k + j) + q, none⟩ = some v := by
  intro q v hv
  have := (hr.2.1 _ v (h.has.get hv)).1
  rw [show (ρ r).2 + (b + i * k + j) + q = (ρ r).2 + (b + i * k + j + q) by omega]
  exact this
 cases ag with
 | true =>
  obtain ⟨qs, rfl, hq⟩ := h.agg rfl
  have hl : (loadCells ⟨(ρ r).1, (ρ r).2 + (b + i * k + j), none⟩ (lst ρ qs).length).run P w = .ok (lst ρ qs).toArray w :=
   run_loadCells_list (P := P) w _ (lst ρ qs) (fun q v hv => by rw [addr_add]; exact hc q v hv)
  rw [hq, ← h3] at hl
  unfold loadVar
  rw [Sem.run_bind, run_isAgg h1, h4]
  simp only [Result.andThen_ok, if_true, sizeOf, typeInfo, Sem.run_bind, run_program, h2, Sem.run_pure, hl]
  show Result.ok (Value.agg _) w = .ok (.agg (cells ρ qs)) w
  congr 2
  apply Array.ext'
  rw [cells_list]
 | false =>
  obtain ⟨l, rfl⟩ := h.one rfl
  have := hc 0 (l.val ρ) rfl
  rw [Nat.add_zero] at this
  unfold loadVar
  rw [Sem.run_bind, run_isAgg h1, h4]
  simp [load, Sem.run, this, SV.val]
def sumS : List Pc → Nat
 | [] => 0
 | p :: ps => p.size + sumS ps
theorem sumS_ok (ρ : Env) : ∀ {ps : List Pc}, pok ps → (lst ρ ps).length = sumS ps
 | [], _ => rfl
 | p :: ps, h => by rw [lst_cons, List.length_append, Pc.len (pok_cons.1 h).1, sumS_ok ρ (pok_cons.1 h).2]; rfl
theorem pcs_ok {ρ : Env} {x : SV} {ps : List Pc} (h : x.pcs = some ps) (hx : x.ok) : pok ps ∧ (x.val ρ).cells.toList = lst ρ ps ∧ pids ps = x.ids := by
 cases x with
 | lf x =>
  cases h
  refine ⟨fun p hp => by simp only [List.mem_singleton] at hp; subst hp; exact hx, ?_, by simp [pids, Pc.ids, SV.ids]⟩
  have h1 := Lf.one_val (ρ := ρ) hx
  show (x.val ρ).cells.toList = [x.val ρ]
  generalize x.val ρ = v at *
  cases v <;> first | rfl | cases h1
 | agg qs =>
  cases h
  exact ⟨hx, cells_list ρ ps, rfl⟩
 | un => cases h
theorem row_wrote {ρ : Env} {r off : Nat} {row : Row} {ps' : List Pc} {vs : List Value} {w w' : World} (hr : RowAt ρ r row w) (hw : row.w = true) (hrep : Repl (lst ρ row.ps) (lst ρ ps') vs off) (hwr : Wrote (ρ r).1 ((ρ r).2 + off) vs w w') :
  Fr w [(ρ r).1] w' ∧ RowAt ρ r ⟨ps', true, row.cp⟩ w' := by
 have hlen := hrep.len
 obtain ⟨X, O, Y, e1, e2, e3, e4⟩ := hrep
 have hcell : ∀ q v, (lst ρ row.ps)[q]? = some v → w.cell? ⟨(ρ r).1, (ρ r).2 + q, none⟩ = some v ∧ w.frozen? ⟨(ρ r).1, (ρ r).2 + q, none⟩ = false := fun q v hv => ⟨(hr.2.1 q v hv).1, (hr.2.1 q v hv).2 hw⟩
 refine ⟨⟨hwr.os, hwr.tape, hwr.output, by rw [hwr.size]; exact Nat.le_refl _, fun q _ hn => hwr.block q (by simpa using hn)⟩, ⟨by rw [hwr.size]; exact hr.1, fun q v hv => ?_, fun e k hc => ?_, ?_⟩⟩
 ·simp only at hv
  refine ⟨?_, fun _ => ?_⟩
  ·rw [e3] at hv
   by_cases c1 : q < X.length
   ·rw [List.append_assoc, List.getElem?_append_left c1] at hv
    rw [hwr.out _ (.inl (by omega))]
    exact (hcell q v (by rw [e1, List.append_assoc, List.getElem?_append_left c1]; exact hv)).1
   ·by_cases c2 : q < X.length + vs.length
    ·rw [List.append_assoc, List.getElem?_append_right (by omega), List.getElem?_append_left (by omega)] at hv
     have := hwr.inn (q - X.length) v hv
     rw [show (ρ r).2 + off + (q - X.length) = (ρ r).2 + q by omega] at this
     exact this
    ·rw [List.getElem?_append_right (by simp; omega)] at hv
     rw [hwr.out _ (.inr (by omega))]
     refine (hcell q v ?_).1
     rw [e1, List.getElem?_append_right (by simp; omega)]
     simp only [List.length_append] at hv ⊢
     rw [e2]; exact hv
  ·rw [hwr.frozen]
   have hlt : q < (lst ρ row.ps).length := by
    have := (List.getElem?_eq_some_iff.1 hv).1
    rw [hlen] at this; exact this
   exact (hcell q _ (List.getElem?_eq_getElem hlt)).2
 ·obtain ⟨k1, k2, k3, cur, k4, k5⟩ := hr.2.2.1 e k hc
  obtain ⟨cur', m1, m2⟩ := hwr.shape cur e _ k4
  exact ⟨k1, k2, by rw [hlen]; exact k3, cur', m1, by rw [m2, k5]⟩
 ·obtain ⟨cur, t2, fz, k4⟩ := hr.2.2.2
  obtain ⟨cur', m1, m2⟩ := hwr.shape cur t2 fz k4
  exact ⟨cur', t2, fz, m1⟩
theorem store_ok {ρ : Env} {P : Program} {t : TypeId} {sz : Nat} {ag : Bool} {r b i k j : Nat} {row : Row} {w : World} {x : SV} {new ps' : List Pc} {ob : List Prop} (ht : tyI P t = some (sz, ag)) (hr : RowAt ρ r row w) (hrow : pok row.ps) (hw : row.w = true)
  (hx : x.ok) (hn : x.pcs = some new) (hs : Nat.beq (sumS new) sz = true) (hp : putP row.ps b i k j sz new = some (ob, ps')) (ho : all ob) :
  ∃ w', (storeVar t ⟨(ρ r).1, (ρ r).2 + (b + i * k + j), none⟩ (x.val ρ)).run P w = .ok () w' ∧ Fr w [(ρ r).1] w' ∧ RowAt ρ r ⟨ps', true, row.cp⟩ w' ∧ pok ps' := by
 obtain ⟨d, ti, h1, h2, h3, h4⟩ := tyI_ok ht
 obtain ⟨g1, g2, g3⟩ := pcs_ok (ρ := ρ) hn hx
 have hl : (lst ρ new).length = sz := by rw [sumS_ok ρ g1]; exact Nat.eq_of_beq_eq_true hs
 have hput := putP_ok (ρ := ρ) g1 hl hrow hp ho
 obtain ⟨X, O, Y, e1, e2, e3, e4⟩ := hput.repl
 have hcell : ∀ q v, (lst ρ row.ps)[q]? = some v → w.cell? ⟨(ρ r).1, (ρ r).2 + q, none⟩ = some v ∧ w.frozen? ⟨(ρ r).1, (ρ r).2 + q, none⟩ = false := fun q v hv => ⟨(hr.2.1 q v hv).1, (hr.2.1 q v hv).2 hw⟩
 obtain ⟨w', hrun, hwr⟩ := storeCells_ok P (ρ r).1 ((ρ r).2 + (b + i * k + j)) (lst ρ new) 0 w (fun q hq => by
  have hlt : b + i * k + j + q < (lst ρ row.ps).length := by rw [e1]; simp; omega
  obtain ⟨c1, c2⟩ := hcell (b + i * k + j + q) _ (List.getElem?_eq_getElem hlt)
  rw [show (ρ r).2 + (b + i * k + j) + 0 + q = (ρ r).2 + (b + i * k + j + q) by omega]
  exact ⟨by rw [c1]; rfl, c2⟩) (lst_one g1)
 rw [Nat.add_zero] at hwr
 obtain ⟨f1, f2⟩ := row_wrote hr hw hput.repl hwr
 refine ⟨w', ?_, f1, f2, hput.ok⟩
 ·have hcs : (x.val ρ).cells.size = ti.size := by rw [← Array.length_toList, g2, hl, h3]
  unfold storeVar
  simp only [sizeOf, typeInfo, Sem.run_bind, run_program, h2, Sem.run_pure, Result.andThen_ok]
  simp only [hcs, ne_eq, not_true_eq_false, if_false, Sem.run_bind, Sem.run_pure, Result.andThen_ok, g2]
  exact hrun
end Go.Proofs.YtdbbcngolcnniaaGreatDoor.E
