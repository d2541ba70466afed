/- Several texts, one behind the other; each says by itself what it proves, and on what conditions. -/
import Derived.Test.YtglipljilcdboaaU17
/- An operation told by its own contract, at its place in a region, drawn or not (there it is the last); the world reckoned from anew. No condition. -/
namespace Go.Proofs.Ytglipljilcdboaa.E
open Go Go.RowKit
set_option linter.unusedVariables false
set_option linter.unusedSimpArgs false

/-- Ahead of an operation. -/
def op1 (P : Program) (C : Hints) (ops : Array Oper) (base m : Nat) (s : St) (ks rs : List Nat) : Option (List Prop × List (Option TV) × List (Option Row)) :=
  match yRun P C ops base m s with
  | some (o1, s1) => some (o1, ks.map s1.tmps, rs.map s1.row)
  | none => none
/-- **An operation by its contract.** -/
theorem At.opX {α : Type} {P : Program} {w0 : World} {wr : Bs} {n : Nat} {gl : List Nat} {todo : List Item} {Q : Exit → Act → World → Prop} {tm tm1 : List (Nat × TV)} {rows rows1 : List (Nat × Row)} {r : Option Nat} {mk : List Nat} {o1 : List Prop} {o2 : α → List Prop}
    (m d : Nat) (cs : List (Nat × Hint)) (hC : allC P cs) (w0' : α → World) (wr' : α → Bs) (tm2 tm3 : α → List (Nat × TV)) (rows2 rows3 : α → List (Nat × Row)) (I : α → Prop) (hr : isReg todo = true)
    (h1 : op1 P (findC cs) (hdOps todo) (1000 + hdRid todo * 1000) m (mkSt n tm rows gl mk) (tm1.map (·.1)) (rows1.map (·.1)) = some (o1, tm1.map (fun p => some p.2), rows1.map fun p => some p.2)) (ho1 : all o1)
    (hs : (noDef (hdOps todo) && (Nat.ble (m + 1) (hdOps todo).size && (gl.all (fun g => Nat.ble (g + 1) 500) && (idsOk tm1 rows1 gl && wr.k.all (hasN (rows1.map (·.1) ++ gl.map (500 + ·))))))) = true)
    (hop : ∀ a w ρ (K : Act → World → Prop) (QQ : Exit → Act → World → Prop), Den w0 wr ρ (mkSt n tm1 rows1 gl mk) a w → (∀ x v w' ρ', I x → Den (w0' x) (wr' x) ρ' (mkSt n (tm2 x) (rows2 x) gl mk) (a.put (some d) v) w' → K (a.put (some d) v) w') → wpOpIn (FW r) 5 P (hdOps todo) QQ m K a w)
    (h2 : ∀ x, I x → call2 P (findC cs) (hdOps todo) (1000 + hdRid todo * 1000) m (mkSt n (tm2 x) (rows2 x) gl mk) ((tm3 x).map (·.1)) ((rows3 x).map (·.1)) = some (o2 x, (tm3 x).map (fun p => some p.2), (rows3 x).map fun p => some p.2))
    (ho2 : ∀ x, I x → all (o2 x)) (hs2 : ∀ x, (idsOk (tm3 x) (rows3 x) gl && (wr' x).k.all (hasN ((rows3 x).map (·.1) ++ gl.map (500 + ·)))) = true)
    (hK : ∀ x, I x → At P (w0' x) (wr' x) n gl todo.tail Q (tm3 x) (rows3 x) r mk) : At P w0 wr n gl todo Q tm rows r mk := by
  rw [isReg_ok hr]
  intro a w ρ hd
  generalize hdOps todo = ops at *
  generalize hdRid todo = rid at *
  simp only [Bool.and_eq_true] at hs
  obtain ⟨hnd, hms, hg, hi1, hk1⟩ := hs
  have hms := Nat.le_of_ble_eq_true hms
  have hC2 := findC_ok hC
  unfold op1 at h1
  split at h1
  · rename_i p1 s1 hr1
    simp only [Option.some.injEq, Prod.mk.injEq] at h1
    obtain ⟨rfl, e1, e2⟩ := h1
    obtain ⟨k1, k2⟩ := runL_keep hr1
    refine KX.code (n := 5) (K := fun a w => KX P r todo.tail Q a w) (wpIn_region ?_) fun a w h => h
    rw [show List.range ops.size = List.range' 0 m ++ (m :: List.range' (m + 1) (ops.size - (m + 1))) by
      rw [List.range_eq_range', ← List.range'_succ]
      have := List.range'_append_1 (s := 0) (m := m) (n := ops.size - (m + 1) + 1)
      rw [Nat.zero_add] at this
      rw [this]
      congr 1
      omega]
    refine wpOpsIn_append (K := fun a w => ∃ ρ, Den w0 wr ρ s1 a w) hnd (fun a w ⟨ρ, hd⟩ => ?_) _ a w (seq_ok hC2 (fun a w ρ hd => ⟨rfl, ρ, hd⟩) _ _ _ _ _ _ _ hr1 ho1 hd)
    rw [wpOpsIn_cons]
    have hd1 := den_mk (gl := gl) hd e1 e2 (fun g hgm => ⟨Nat.le_of_ble_eq_true (List.all_eq_true.1 hg g hgm), k2 _ (hasN_iff.2 (List.mem_append.2 (.inr (List.mem_map.2 ⟨g, hgm, rfl⟩))))⟩) hi1 hk1
    rw [k1.1, k1.2] at hd1
    refine hop a w ρ _ _ hd1 ?_
    intro x v w' ρ' hI hd2
    have h3 := h2 x hI
    unfold call2 at h3
    split at h3
    · rename_i p2 s2 hr2
      simp only [Option.some.injEq, Prod.mk.injEq] at h3
      obtain ⟨rfl, e3, e4⟩ := h3
      have hs3 := hs2 x
      rw [Bool.and_eq_true] at hs3
      refine rest_ok hnd hC2 hr2 (ho2 x hI) (fun a w ρ hd3 => ⟨rfl, ?_⟩) hd2
      obtain ⟨j1, j2⟩ := runL_keep hr2
      have := den_mk (gl := gl) hd3 e3 e4 (fun g hgm => ⟨Nat.le_of_ble_eq_true (List.all_eq_true.1 hg g hgm), j2 _ (hasN_iff.2 (List.mem_append.2 (.inr (List.mem_map.2 ⟨g, hgm, rfl⟩))))⟩) hs3.1 hs3.2
      rw [j1.1, j1.2] at this
      exact hK x hI a w ρ this
    · cases h3
  · cases h1

/-! ### The last operation of a region that draws its order -/

theorem getD_push (l : Array Bool) (k : Nat) : (l.push false).getD k false = l.getD k false := by
  rw [Array.getD_eq_getD_getElem?, Array.getD_eq_getD_getElem?, Array.getElem?_push]
  by_cases h : k = l.size
  · rw [if_pos h, h, Array.getElem?_eq_none (Nat.le_refl _)]; rfl
  · rw [if_neg h]
theorem any_push {P : Program} {F : Fence} {n : Nat} {ops : Array Oper} {o : Oper} {A : List (List Nat)} (hng : ∀ (i : Nat) (x : Oper), ops[i]? = some x → x.guard = none) (hA : AncOk (ops.push o) A) (hl : ∀ i, i < ops.size → i ∈ A.getD ops.size []) (hf : fwd (ops.push o) = true)
    {K : Act → World → Prop} {Q : Exit → Act → World → Prop} (hlast : ∀ a w, K a w → wpOpIn F n P (ops.push o) Q ops.size (fun a w => Q .normal a w) a w) :
    ∀ (fuel : Nat) (listed : Array Bool) (a : Act) (w : World), listed.size = ops.size → Down A (listed.push false) → wpAnyIn F n P .any ops (fun e a w => e = .normal ∧ K a w) fuel listed a w → wpAnyIn F n P .any (ops.push o) Q (fuel + 1) (listed.push false) a w := by
  have hop : ∀ i, i < ops.size → (ops.push o)[i]? = ops[i]? := fun i hi => by rw [Array.getElem?_push, if_neg (by omega)]
  have hopn : (ops.push o)[ops.size]? = some o := by rw [Array.getElem?_push, if_pos rfl]
  have hgt : ∀ (l : Array Bool) (i : Nat), i < l.size → (l.push false).getD i true = l.getD i true := fun l i hi => by
    rw [Array.getD_eq_getD_getElem?, Array.getD_eq_getD_getElem?, Array.getElem?_push, if_neg (by omega)]
  have hrd : ∀ (listed : Array Bool), listed.size = ops.size → ∀ j, j < ops.size → (j ∈ Region.ready .any (ops.push o) (listed.push false) ↔ j ∈ Region.ready .any ops listed) := by
    intro listed hsz j hj
    rw [mem_ready, mem_ready, hop j hj, hgt listed j (by omega)]
    simp only [getD_push]
  have hall : ∀ (listed : Array Bool), listed.size = ops.size → Region.ready .any ops listed = [] → ∀ i, i < ops.size → listed.getD i false = true := by
    intro listed hsz h0 i
    induction i using Nat.strongRecOn with
    | ind i ih =>
      intro hi
      cases hg : listed.getD i false with
      | true => rfl
      | false =>
        have hio : ops[i]? = some ops[i] := Array.getElem?_eq_getElem hi
        have : i ∈ Region.ready .any ops listed := by
          refine mem_ready.2 ⟨?_, ops[i], hio, fun e he hb => ?_⟩
          · rw [Array.getD_eq_getD_getElem?, Array.getElem?_eq_getElem (by omega)] at hg ⊢
            exact hg
          · have := fwd_ok hf ((hop i hi).trans hio) e he hb
            exact ih e.on this (by omega)
        rw [h0] at this; cases this
  have hlr : ∀ (listed : Array Bool), listed.size = ops.size → Down A (listed.push false) → ops.size ∈ Region.ready .any (ops.push o) (listed.push false) → ∀ i, i < ops.size → listed.getD i false = true := by
    intro listed hsz hD hr i hi
    cases hg : listed.getD i false with
    | true => rfl
    | false => exact absurd (hl i hi) (not_waits hA hD hr (by rw [getD_push]; exact hg))
  have hfin : ∀ (fuel : Nat) (listed : Array Bool) (a : Act) (w : World), listed.size = ops.size → (∀ i, i < ops.size → listed.getD i false = true) → Q .normal a w → wpAnyIn F n P .any (ops.push o) Q fuel ((listed.push false).setIfInBounds ops.size true) a w := by
    intro fuel listed a w hsz hal hq
    have hr0 : Region.ready .any (ops.push o) ((listed.push false).setIfInBounds ops.size true) = [] := by
      cases hq2 : Region.ready .any (ops.push o) ((listed.push false).setIfInBounds ops.size true) with
      | nil => rfl
      | cons j js =>
        have hj : j ∈ Region.ready .any (ops.push o) ((listed.push false).setIfInBounds ops.size true) := by rw [hq2]; exact List.mem_cons_self ..
        obtain ⟨h0, x, hx, _⟩ := mem_ready.1 hj
        have hjn : j < ops.size + 1 := by have := (Array.getElem?_eq_some_iff.1 hx).1; simpa using this
        have ht : ((listed.push false).setIfInBounds ops.size true).getD j false = true := by
          by_cases hjs : j = ops.size
          · subst hjs
            rw [Array.getD_eq_getD_getElem?, Array.getElem?_setIfInBounds]
            simp [hsz]
          · exact getD_set_true (by rw [getD_push]; exact hal j (by omega))
        rw [Array.getD_eq_getD_getElem?] at h0 ht
        cases hv : ((listed.push false).setIfInBounds ops.size true)[j]? with
        | none => rw [hv] at ht; cases ht
        | some b => rw [hv] at h0 ht; simp at h0 ht; rw [h0] at ht; cases ht
    cases fuel with
    | zero => exact ⟨hr0, hq⟩
    | succ f => exact ⟨fun _ => hq, fun i hi => by rw [hr0] at hi; cases hi⟩
  have hne : ∀ (listed : Array Bool), listed.size = ops.size → Region.ready .any ops listed = [] → ops.size ∈ Region.ready .any (ops.push o) (listed.push false) := by
    intro listed hsz h0
    refine mem_ready.2 ⟨?_, o, hopn, fun e he hb => ?_⟩
    · rw [Array.getD_eq_getD_getElem?, Array.getElem?_push, if_pos hsz.symm]; rfl
    · have := fwd_ok hf hopn e he hb
      rw [getD_push]
      exact hall listed hsz h0 e.on this
  intro fuel
  induction fuel with
  | zero =>
    intro listed a w hsz hD h
    obtain ⟨h0, _, hk⟩ := h
    refine ⟨fun hr => ?_, fun i hi => ?_⟩
    · have := hne listed hsz h0
      rw [hr] at this; cases this
    · have hin : i < ops.size + 1 := by
        obtain ⟨_, x, hx, _⟩ := mem_ready.1 hi
        have := (Array.getElem?_eq_some_iff.1 hx).1; simpa using this
      by_cases his : i = ops.size
      · subst his
        refine wpOpIn_mono (fun a w hq => ?_) (hlast a w hk)
        exact hfin _ _ _ _ hsz (hall listed hsz h0) hq
      · have := (hrd listed hsz i (by omega)).1 hi
        rw [h0] at this; cases this
  | succ fuel ih =>
    intro listed a w hsz hD h
    obtain ⟨h0, h1⟩ := h
    refine ⟨fun hr => ?_, fun i hi => ?_⟩
    · cases hq : Region.ready .any ops listed with
      | nil =>
        have := hne listed hsz hq
        rw [hr] at this; cases this
      | cons j js =>
        have hj : j ∈ Region.ready .any ops listed := by rw [hq]; exact List.mem_cons_self ..
        have hjn : j < ops.size := by
          obtain ⟨_, x, hx, _⟩ := mem_ready.1 hj
          exact (Array.getElem?_eq_some_iff.1 hx).1
        have := (hrd listed hsz j hjn).2 hj
        rw [hr] at this; cases this
    · have hin : i < ops.size + 1 := by
        obtain ⟨_, x, hx, _⟩ := mem_ready.1 hi
        have := (Array.getElem?_eq_some_iff.1 hx).1; simpa using this
      by_cases his : i = ops.size
      · subst his
        have hal := hlr listed hsz hD hi
        have hr0 : Region.ready .any ops listed = [] := by
          cases hq : Region.ready .any ops listed with
          | nil => rfl
          | cons j js =>
            have hj : j ∈ Region.ready .any ops listed := by rw [hq]; exact List.mem_cons_self ..
            obtain ⟨h2, x, hx, _⟩ := mem_ready.1 hj
            have := hal j (Array.getElem?_eq_some_iff.1 hx).1
            rw [Array.getD_eq_getD_getElem?] at h2 this
            cases hv : listed[j]? with
            | none => rw [hv] at this; cases this
            | some b => rw [hv] at h2 this; simp at h2 this; rw [h2] at this; cases this
        refine wpOpIn_mono (fun a w hq => ?_) (hlast a w (h0 hr0).2)
        exact hfin _ _ _ _ hsz hal hq
      · have hi2 := (hrd listed hsz i (by omega)).1 hi
        have h2 := h1 i hi2
        have hset : (listed.push false).setIfInBounds i true = (listed.setIfInBounds i true).push false := by
          apply Array.ext'
          rw [Array.toList_setIfInBounds, Array.toList_push, Array.toList_push, Array.toList_setIfInBounds, List.set_append_left _ _ (by rw [Array.length_toList]; omega)]
        have hD2 : Down A ((listed.setIfInBounds i true).push false) := by
          have := down_set hA hD hi
          rwa [hset] at this
        obtain ⟨_, x, hx, _⟩ := mem_ready.1 hi2
        have hw : ∀ (os : Array Oper), Region.wanted x (yielded os a.tmps) = true := fun os => by unfold Region.wanted; rw [hng i x hx]
        unfold wpOpIn at h2 ⊢
        rw [hop i (by omega), hx]
        rw [hx] at h2
        simp only at h2 ⊢
        rw [if_pos (hw _)] at h2 ⊢
        rw [hset]
        refine wpIn_out (Oper.wpIn_mono (fun a w h => ih (listed.setIfInBounds i true) a w (by simp [hsz]) hD2 h) h2) (fun e a w he h => he h.1)
/-- Ahead of the last operation of a region that draws its order. -/
def opL1 (P : Program) (C : Hints) (ops : Array Oper) (base : Nat) (s : St) (ks rs : List Nat) : Option (List Prop × List (Option TV) × List (Option Row)) :=
  bif noDef ops.pop then
    bif fwd ops.pop && pairs ops.pop.size (okPair ops.pop (recL P C ops.pop base ops.pop.size 0 s) (ancs ops.pop.toList [])) then match runL P C ops.pop base (recL P C ops.pop base ops.pop.size 0 s) ops.pop.size 0 s with
      | some (o1, s1) => some (o1, ks.map s1.tmps, rs.map s1.row)
      | none => none
    else none
  else none
def isRegD : List Item → Bool
  | .code (.region _ _ true) :: _ => true
  | _ => false
theorem isRegD_ok : ∀ {t : List Item}, isRegD t = true → t = .code (.region (hdRid t) (hdOps t) true) :: t.tail
  | .code (.region id ops true) :: k, _ => rfl
/-- What the last operation waits for: all others; none of them has a guard. -/
def lastOk (ops : Array Oper) : Bool := Nat.ble 1 ops.size && (fwd ops && ((List.range ops.pop.size).all (fun i => hasN ((ancs ops.toList []).getD ops.pop.size []) i) && ops.pop.toList.all (fun o => match o.guard with | none => true | some _ => false)))
/-- **The last operation of a region that draws its order, by its contract.** -/
theorem At.opL {α : Type} {P : Program} {w0 : World} {wr : Bs} {n : Nat} {gl : List Nat} {todo : List Item} {Q : Exit → Act → World → Prop} {tm tm1 : List (Nat × TV)} {rows rows1 : List (Nat × Row)} {r : Option Nat} {mk : List Nat} {o1 : List Prop}
    (hm : P.follows .mixedOrders = true) (d : Nat) (cs : List (Nat × Hint)) (hC : allC P cs) (w0' : α → World) (wr' : α → Bs) (tm2 : α → List (Nat × TV)) (rows2 : α → List (Nat × Row)) (I : α → Prop) (hr : isRegD todo = true)
    (h1 : opL1 P (findC cs) (hdOps todo) (1000 + hdRid todo * 1000) (mkSt n tm rows gl mk) (tm1.map (·.1)) (rows1.map (·.1)) = some (o1, tm1.map (fun p => some p.2), rows1.map fun p => some p.2)) (ho1 : all o1)
    (hs : (gl.all (fun g => Nat.ble (g + 1) 500) && (idsOk tm1 rows1 gl && wr.k.all (hasN (rows1.map (·.1) ++ gl.map (500 + ·))))) = true) (hl : lastOk (hdOps todo) = true)
    (hop : ∀ a w ρ (K : Act → World → Prop) (QQ : Exit → Act → World → Prop), Den w0 wr ρ (mkSt n tm1 rows1 gl mk) a w → (∀ x v w' ρ', I x → Den (w0' x) (wr' x) ρ' (mkSt n (tm2 x) (rows2 x) gl mk) (a.put (some d) v) w' → K (a.put (some d) v) w') → wpOpIn (FW r) 5 P (hdOps todo) QQ (hdOps todo).pop.size K a w)
    (hK : ∀ x, I x → At P (w0' x) (wr' x) n gl todo.tail Q (tm2 x) (rows2 x) r mk) : At P w0 wr n gl todo Q tm rows r mk := by
  rw [isRegD_ok hr]
  intro a w ρ hd
  generalize hdOps todo = ops at *
  generalize hdRid todo = rid at *
  simp only [Bool.and_eq_true] at hs
  obtain ⟨hg, hi1, hk1⟩ := hs
  simp only [lastOk, Bool.and_eq_true] at hl
  obtain ⟨hsz, hf, hanc, hgd⟩ := hl
  have hsz := Nat.le_of_ble_eq_true hsz
  have hC2 := findC_ok hC
  have hback : ops.pop.push (ops.back (by omega)) = ops := by
    apply Array.ext'
    rw [Array.toList_push, Array.toList_pop, ← Array.getLast_toList]
    exact List.dropLast_concat_getLast (by intro h; have := congrArg List.length h; simp at this; simp [this] at hsz)
  unfold opL1 at h1
  cases hnd : noDef ops.pop with
  | false => rw [hnd] at h1; cases h1
  | true =>
  rw [hnd] at h1
  simp only [cond_true] at h1
  cases hb : (fwd ops.pop && pairs ops.pop.size (okPair ops.pop (recL P (findC cs) ops.pop (1000 + rid * 1000) ops.pop.size 0 (mkSt n tm rows gl mk)) (ancs ops.pop.toList []))) with
  | false => rw [hb] at h1; cases h1
  | true =>
  rw [hb] at h1
  simp only [cond_true] at h1
  rw [Bool.and_eq_true] at hb
  split at h1
  · rename_i p1 s1 hr1
    simp only [Option.some.injEq, Prod.mk.injEq] at h1
    obtain ⟨rfl, e1, e2⟩ := h1
    obtain ⟨k1, k2⟩ := runL_keep hr1
    refine KX.code (n := 5) (K := fun a w => KX P r todo.tail Q a w) ?_ fun a w h => h
    refine wpIn_region_any hm ?_
    have hK8 : ¬ LetsOut (fun e a w => e = Exit.normal ∧ ∃ ρ, Den w0 wr ρ s1 a w) := fun ⟨_, _, h, _⟩ => by cases h
    have h8 := wpAnyIn_of (r := r) (n := 5) hnd hK8 _ _ _ _ (any_of_sym (base := 1000 + rid * 1000) (R := recL P (findC cs) ops.pop (1000 + rid * 1000) ops.pop.size 0 (mkSt n tm rows gl mk)) (K := fun x => x = s1) hC2 (fun x a w ρ hx hd => ⟨rfl, ρ, hx ▸ hd⟩) ops.pop.size (Array.replicate ops.pop.size false) _ _ _ ρ (den_drew hd) (sym_lex (A := ancs ops.pop.toList []) (fun j o hj i hi => by
        have := ancs_ok ops.pop.toList [] j o (by rw [Array.getElem?_toList]; exact hj) i (by simpa using hi)
        exact this) hb.1 hb.2 _ 0 _ _ _ _ (by simp) (by simp) (fun j hj => by simp only [Array.getElem?_replicate]; rw [if_pos hj]; simp) (fun k hk i hi => by
        rcases Nat.lt_or_ge k ops.pop.size with h | h
        · rw [Array.getD_eq_getD_getElem?, Array.getElem?_replicate, if_pos h] at hk; cases hk
        · rw [Array.getD_eq_getD_getElem?, Array.getElem?_replicate, if_neg (by omega)] at hk; cases hk) hr1 ho1 rfl))
    have key := any_push (F := FW r) (n := 5) (P := P) (ops := ops.pop) (o := ops.back (by omega)) (A := ancs ops.toList []) (Q := fun e a w => e = .normal ∧ KX P r todo.tail Q a w) (fun i x hx => ?_) (by
        rw [hback]
        intro j o hj i hi
        exact ancs_ok ops.toList [] j o (by simpa using hj) i (by simpa using hi)) (fun i hi => hasN_iff.1 (List.all_eq_true.1 hanc i (List.mem_range.2 hi))) (by rw [hback]; exact hf) (K := fun a w => ∃ ρ, Den w0 wr ρ s1 a w) (fun a w ⟨ρ, hd2⟩ => ?_) _ _ _ _ (by simp) ?_ h8
    · rw [hback] at key
      have e : (Array.replicate ops.pop.size false).push false = Array.replicate ops.size false := by
        apply Array.ext'
        rw [Array.toList_push, Array.toList_replicate, Array.toList_replicate, ← List.replicate_succ', Array.size_pop]
        congr 1
        omega
      rw [e] at key
      rwa [show ops.pop.size + 1 = ops.size by rw [Array.size_pop]; omega] at key
    · have := List.all_eq_true.1 hgd x (List.mem_of_getElem? (by rw [Array.getElem?_toList]; exact hx))
      split at this
      · assumption
      · cases this
    · rw [hback]
      have hd1 := den_mk (gl := gl) hd2 e1 e2 (fun g hgm => ⟨Nat.le_of_ble_eq_true (List.all_eq_true.1 hg g hgm), k2 _ (hasN_iff.2 (List.mem_append.2 (.inr (List.mem_map.2 ⟨g, hgm, rfl⟩))))⟩) hi1 hk1
      rw [k1.1, k1.2] at hd1
      exact hop a w ρ _ _ hd1 fun x v w' ρ' hI hd3 => ⟨rfl, hK x hI _ _ ρ' hd3⟩
    · intro k hk i hi
      rw [getD_push] at hk
      rcases Nat.lt_or_ge k ops.pop.size with h | h
      · rw [Array.getD_eq_getD_getElem?, Array.getElem?_replicate, if_pos h] at hk; cases hk
      · rw [Array.getD_eq_getD_getElem?, Array.getElem?_replicate, if_neg (by omega)] at hk; cases hk
  · cases h1
/-! ### A function value that bears its first arguments -/

/-- Which function is called, with what, and where the answer goes. -/
def xCallF (ops : Array Oper) (m : Nat) (s : St) : Option (Tmp × FuncId × Array Value × Array Value × List TV) :=
  match ops[m]? with
  | some o => match o.guard, o.dst, o.op with
    | none, some d, .call c => match c.callee with
      | .value y => match evalO s y, evalL s c.args.toList with
        | some (.s (.lf (.v (.func (.func f) fi ca)))), some vs => some (d, f, fi, ca, vs)
        | _, _ => none
      | _ => none
    | _, _, _ => none
  | none => none
theorem xCallF_ok {P : Program} {ops : Array Oper} {m : Nat} {s : St} {d : Tmp} {f : FuncId} {fi ca : Array Value} {vs : List TV} {w0 : World} {wr : Bs} {ρ : Env} {a : Act} {w : World} {Q : Exit → Act → World → Prop} {K : Act → World → Prop} {r : Option Nat} {n : Nat} (h : xCallF ops m s = some (d, f, fi, ca, vs)) (hd : Den w0 wr ρ s a w) (he : Enters P f)
    (hc : Calls P f (fi ++ (vs.map (TV.val ρ)).toArray ++ ca) w fun e w' => ∃ v, e = .returned v ∧ K (a.put (some d) v) w') : wpOpIn (FW r) n P ops Q m K a w := by
  unfold xCallF at h
  split at h
  · rename_i o ho
    split at h
    · rename_i d2 c hg hdst hop
      split at h
      · rename_i y hcal
        split at h
        · rename_i f2 fi ca vs2 hy hvs
          cases h
          have h1 := (evalO_ok hd hy).1
          have h2 := (evalL_ok hd hvs).1
          unfold wpOpIn
          rw [ho]
          simp only
          rw [if_pos (by simp [Region.wanted, hg])]
          refine ⟨fun _ _ => trivial, ?_⟩
          rw [Oper.semAt_eq _ _ _ (by rw [hop]; intro c hc; cases hc)]
          have h3 : c.args.map a.eval = (vs.map (TV.val ρ)).toArray := by
            apply Array.ext'
            rw [Array.toList_map, h2]
          have hrun : (execOp a.eval o).run P w = .ok (.enter f (fi ++ (vs.map (TV.val ρ)).toArray ++ ca)) w := by
            unfold execOp
            rw [hop]
            simp only [resolve, hcal, h1, TV.val, SV.val, Lf.val, h3, Deferred.ofValue, Sem.run_bind, Sem.run_pure, Result.andThen_ok, invoke, Array.append_empty, Array.empty_append]
            exact he _ w
          rw [hrun]
          refine ⟨fun h => by simp [FW, Fence.wide] at h, CallsIn.mono (callsIn_FW hc) ?_⟩
          rintro e w' ⟨v, rfl, hk⟩
          rw [hdst]
          exact hk
        · cases h
      · cases h
    · cases h
  · cases h

end Go.Proofs.Ytglipljilcdboaa.E
/- Of the program: the end of a text as a hint; a text cut, as the program does it. No condition but what each names. -/
namespace Go.Proofs.Ytglipljilcdboaa
open Go.RowKit Go.Shelf
set_option linter.unusedVariables false
set_option linter.unusedSimpArgs false
section
open E
abbrev hEn (r lr : Nat) (xn xo : Lf) (pl : Nat) (pa : List UInt8) (b : Bool) (bs : List UInt8) (n : Nat) (s : List UInt8) (ok : Bool) : Hint := .call ⟨50, fun ρ => #[(ptrTo r).val ρ, .int .i64 (n : Int)], .tup [.lf (.v (stv s)), .lf (.v (.bool ok))], [(r, rdP (slB lr bs.length) xn xo pl pa b), (lr, byR bs)], [(r, rdP (slB lr (if ok then 0 else bs.length)) xn xo pl pa b)], none, []⟩
theorem hEn_ok {r lr id : Nat} {xn xo : Lf} {pl : Nat} {pa : List UInt8} {b : Bool} {bs : List UInt8} {n : Nat} {s : List UInt8} {ok : Bool} (hxn : xn.ok) (hxo : xo.ok) (hid : id ∉ xn.ids ∧ id ∉ xo.ids) (hr : r ≠ lr ∧ r ≠ id ∧ lr ≠ id) (hn : bs.length = 8 + padN n) (hbs : bs.length ≤ 1000000000000) (he : endL bs n = (s, ok)) : HintOk Try.prog id (hEn r lr xn xo pl pa b bs n s ok) := by
  refine ⟨fun x hx => ?_, fun p hp => ?_, ent50, fun ρ w hp hd => ?_⟩
  · simp only [List.mem_cons, List.not_mem_nil, or_false] at hx
    rcases hx with rfl | rfl <;> rfl
  · obtain rfl := List.mem_singleton.1 hp; exact hr.2.1
  have h0 := hp (r, rdP (slB lr bs.length) xn xo pl pa b) (by simp)
  have h1 := hp (lr, byR bs) (by simp)
  have hne := hd (r, rdP (slB lr bs.length) xn xo pl pa b) (by simp) (lr, byR bs) (by simp) hr.1 rfl
  obtain ⟨σ, hσ⟩ : ∃ σ : Env, σ = fun i => if i = 0 then ρ r else ρ lr := ⟨_, rfl⟩
  have e0 : σ 0 = ρ r := by rw [hσ]; rfl
  have e1 : σ 1 = ρ lr := by rw [hσ]; rfl
  have hc := end_any bs n hn hbs (xn.val ρ) (xo.val ρ) (Lf.one_val hxn) (Lf.one_val hxo) pl pa b σ w (rdP_mv h0 e0 (by simp only [Lf.val, e1]) rfl rfl) (byR_mv h1 e1) (by rw [e0, e1]; exact hne)
  rw [he] at hc
  have e : #[(ptrTo 0).val σ, .int .i64 (n : Int)] = #[(ptrTo r).val ρ, .int .i64 (n : Int)] := by simp only [ptrTo, TV.val, SV.val, Lf.val, e0]
  rw [e] at hc
  refine hc.mono ?_
  rintro e w' ⟨rfl, hf, k0, k1⟩
  rw [e0] at hf
  refine ⟨ρ, rfl, fun x hx => ?_, fun _ _ => rfl, ?_, fun p hp => ?_, fun p hp hpe => ?_⟩
  · simp only [List.mem_cons, List.not_mem_nil, or_false] at hx
    rcases hx with rfl | rfl <;> rfl
  · have hb1 : (!(r == id)) = true := by simpa using hr.2.1
    simp only [Option.map_none, Option.toList_none, List.append_nil, List.filter_cons, List.filter_nil, hb1, if_true, List.map_cons, List.map_nil]
    exact hf
  · simp only [Option.map_none, Option.toList_none, List.append_nil, List.mem_singleton] at hp
    subst hp
    exact ⟨rdP_mv k0 e0.symm (by simp only [Lf.val, e1]) rfl rfl, rdP_ok _ _ _ trivial hxn hxo⟩
  · simp only [Option.map_none, Option.toList_none, List.append_nil, List.mem_singleton] at hp
    subst hp
    exact absurd hpe hr.2.1
/-! ### A text cut -/
theorem gN_app {a b : List UInt8} (h : 8 ≤ a.length) : leN ((a ++ b).take 8) = gN a 8 := by rw [List.take_append_of_le_length h]; rfl
theorem cut_short {m : Nat} {r : List UInt8} (h : r.length < 8) : cutT m r = .more := by unfold cutT; rw [if_pos h]
theorem cut_great {m : Nat} {r : List UInt8} (h : 8 ≤ r.length) (h2 : m < gN r 8) : cutT m r = .form := by unfold cutT; rw [if_neg (by omega), if_pos (show m < leN (r.take 8) from h2)]
theorem cut_part {m : Nat} {r : List UInt8} (h : 8 ≤ r.length) (h2 : gN r 8 ≤ m) (h3 : r.length < 8 + padN (gN r 8)) : cutT m r = .more := by
  unfold cutT
  rw [if_neg (by omega), if_neg (by show ¬ m < gN r 8; omega), if_pos (show r.length < 8 + padN (leN (r.take 8)) from h3)]
theorem cut_whole {m : Nat} {r : List UInt8} (h : 8 ≤ r.length) (h2 : gN r 8 ≤ m) (h3 : 8 + padN (gN r 8) ≤ r.length) : cutT m r = (if (endL (r.take (8 + padN (gN r 8))) (gN r 8)).2 = true then .ok (endL (r.take (8 + padN (gN r 8))) (gN r 8)).1 (r.drop (8 + padN (gN r 8))) else .form) := by
  have hp := pad_le (gN r 8)
  have e1 : (r.take (8 + padN (gN r 8))).drop (8 + gN r 8) = (r.drop (8 + gN r 8)).take (padN (gN r 8) - gN r 8) := by
    rw [List.drop_take]; congr 1; omega
  have e2 : ((r.take (8 + padN (gN r 8))).drop 8).take (gN r 8) = (r.drop 8).take (gN r 8) := by
    rw [List.drop_take, List.take_take, Nat.min_eq_left (by omega)]
  unfold cutT
  rw [if_neg (by omega), if_neg (by show ¬ m < gN r 8; omega), if_neg (by show ¬ r.length < 8 + padN (gN r 8); omega)]
  unfold endL
  rw [e1, e2]
  show (if (((r.drop (8 + gN r 8)).take (padN (gN r 8) - gN r 8)).all fun x => x == 0) = true then _ else _) = _
  cases ((r.drop (8 + gN r 8)).take (padN (gN r 8) - gN r 8)).all (fun x => x == 0) <;> rfl
/-- What more may hold if it is that. -/
theorem more_inv {m : Nat} {r : List UInt8} (h : cutT m r = .more) : r.length < 8 ∨ (8 ≤ r.length ∧ gN r 8 ≤ m ∧ r.length < 8 + padN (gN r 8)) := by
  by_cases h8 : r.length < 8
  · exact .inl h8
  · by_cases h2 : m < gN r 8
    · rw [cut_great (by omega) h2] at h; cases h
    · by_cases h3 : r.length < 8 + padN (gN r 8)
      · exact .inr ⟨by omega, by omega, h3⟩
      · rw [cut_whole (by omega) (by omega) (by omega)] at h
        split at h <;> cases h
theorem take_more {n : Nat} {bs s : List UInt8} (h : bs.length ≤ n) : bs ++ s.take (takeN n bs s) = (bs ++ s).take n ∧ s.drop (takeN n bs s) = (bs ++ s).drop n := by
  rw [List.take_append, List.drop_append, List.take_of_length_le h, List.drop_of_length_le h, List.nil_append]
  unfold takeN
  constructor
  · by_cases h2 : n - bs.length ≤ s.length
    · rw [Nat.min_eq_left h2]
    · rw [Nat.min_eq_right (by omega), List.take_of_length_le (Nat.le_refl _), List.take_of_length_le (by omega)]
  · by_cases h2 : n - bs.length ≤ s.length
    · rw [Nat.min_eq_left h2]
    · rw [Nat.min_eq_right (by omega), List.drop_of_length_le (by omega), List.drop_of_length_le (by omega)]
theorem takeN_none {n : Nat} {bs s : List UInt8} (h : n ≤ bs.length) : takeN n bs s = 0 := by unfold takeN; omega
theorem mostM_le (p m : Nat) (h : mostM p = some m) : m ≤ 65536 := by
  unfold mostM at h
  split at h
  · cases h; decide
  · split at h
    · cases h; decide
    · split at h
      · cases h; decide
      · have hw : ∀ x ∈ waysL p, x.1.length ≤ 13 := (ways_len p).2
        split at h
        · cases h
        · rename_i w l hl
          cases h
          rw [hl] at hw
          have : ∀ (l : List (List UInt8 × Nat × Int)) (k : Nat), k ≤ 13 → (∀ x ∈ l, x.1.length ≤ 13) → l.foldl (fun m w => max m w.1.length) k ≤ 13 := by
            intro l
            induction l with
            | nil => intro k hk _; exact hk
            | cons y l ih =>
              intro k hk hl
              exact ih _ (by have := hl y (List.mem_cons_self ..); simp only; omega) fun x hx => hl x (List.mem_cons_of_mem _ hx)
          have := this l w.1.length (hw w (List.mem_cons_self ..)) fun x hx => hw x (List.mem_cons_of_mem _ hx)
          omega
theorem most_14 : mostM 14 = some 255 := rfl
end
end Go.Proofs.Ytglipljilcdboaa
/- Of the program: what the iterator over texts keeps, and what it asks of a round. No condition but what each names. -/
namespace Go.Proofs.Ytglipljilcdboaa
open Go.RowKit Go.Shelf
set_option linter.unusedVariables false
set_option linter.unusedSimpArgs false
section
open E
abbrev yv (l : Nat) : Value := .func (.yield l) #[] #[]
abbrev mfv (b : Nat) : Value := .func (.func 33) #[.pointer (some ⟨b, 1, none⟩)] #[]
abbrev bx2 (b : Nat) : Nat × Row := (2, ⟨[.one (.v (mfv b))], false, none⟩)
abbrev bx3 : Nat × Row := (3, ⟨[.one (.ptr 0 0 0 0 0)], false, none⟩)
abbrev rwB (r : Nat) (n : Nat) (bs : List UInt8) (vn vo : Value) (p : Nat) (pa : List UInt8) (b : Nat) : List (Nat × Row) := [(0, rdP (slB r n) (.v vn) (.v vo) p pa false), bx2 b, bx3, (r, byR bs)]
abbrev rw0 (vn vo : Value) (p : Nat) (pa : List UInt8) (b : Nat) : List (Nat × Row) := [(0, rdP (.v (.slice none 0 0)) (.v vn) (.v vo) p pa false), bx2 b, bx3]
abbrev tmH (l : Nat) (rest : List UInt8) : List (Nat × TV) := [(0, .v (yv l)), (2, ptrTo 2), (3, ptrTo 3), (5, .v (stv rest))]
abbrev tmM (l : Nat) (rest : List UInt8) (m : Int) : List (Nat × TV) := [(0, .v (yv l)), (2, ptrTo 2), (3, ptrTo 3), (5, .v (stv rest)), (6, .int .i64 m)]
/-- Where things lie. -/
def envK (b p1 p2 p3 : Nat) (B : Blk) : Env := fun i => if i = 0 then ⟨b, 0, 0⟩ else if i = 1 then ⟨p1, 0, 0⟩ else if i = 2 then ⟨p2, 0, 0⟩ else if i = 3 then ⟨p3, 0, 0⟩ else B
theorem slB_val {ρ : Env} {r n : Nat} {B : Blk} (e : ρ r = B) (h0 : B.2 = 0) : (slB r n).val ρ = .slice (some ⟨B.1, 0, none⟩) n B.3 := by
  show Value.slice (some ⟨(ρ r).1, (ρ r).2 + (0 + 0 * 1), none⟩) n ((ρ r).3 - 0) = _
  rw [e, h0]; rfl
theorem byR_z {ρ : Env} {r : Nat} {bs : List UInt8} {w : World} (h : RowAt ρ r (byR bs) w) : (ρ r).2 = 0 := (h.2.2.1 5 1 rfl).1
/-- What is begun, in memory. -/
def ByV (W : World) (vb : Value) (bs : List UInt8) (E : List Nat) : Prop :=
  (bs = [] ∧ vb = .slice none 0 0 ∧ E = []) ∨ ∃ B : Blk, vb = .slice (some ⟨B.1, 0, none⟩) bs.length B.3 ∧ RowAt (fun _ => B) 0 (byR bs) W ∧ E = [B.1]
theorem ByV.cell {W : World} {vb : Value} {bs : List UInt8} {E : List Nat} (h : ByV W vb bs E) : vb.oneCell' = true := by
  rcases h with ⟨_, rfl, _⟩ | ⟨B, rfl, _⟩ <;> rfl
theorem ByV.fr {W W' : World} {vb : Value} {bs : List UInt8} {E l : List Nat} (h : ByV W vb bs E) (hf : Fr W l W') (hd : ∀ x ∈ E, x ∉ l) : ByV W' vb bs E := by
  rcases h with h | ⟨B, h1, h2, rfl⟩
  · exact .inl h
  · exact .inr ⟨B, h1, rowAt_fr h2 hf (hd _ (by simp)), rfl⟩
theorem ByV.lt {W : World} {vb : Value} {bs : List UInt8} {E : List Nat} (h : ByV W vb bs E) : ∀ x ∈ E, x < W.heap.size := by
  rcases h with ⟨_, _, rfl⟩ | ⟨B, _, h2, rfl⟩
  · intro x hx; cases hx
  · intro x hx
    obtain rfl := List.mem_singleton.1 hx
    exact h2.1
/-- The reader in memory; D: the blocks of what it holds. -/
def RdAt (W : World) (b : Nat) (t : TS) (bs : List UInt8) (D : List Nat) : Prop :=
  ∃ vb E D', D = E ++ D' ∧ ByV W vb bs E ∧ TkPre W b vb t D' ∧ (b :: (E ++ D')).Nodup
/-- What a round must do, with what it keeps of its own (J: while rounds go on; Jx: when one was the last). -/
structure YCtx (b l : Nat) (KB : List Nat) (J Jx : World → Prop) : Prop where
  lt : ∀ W, J W → ∀ x ∈ KB, x < W.heap.size
  fr : ∀ W W' S, J W → Fr W S W' → (∀ x ∈ S, x ∉ KB) → J W'
  frx : ∀ W W', Jx W → Fr W [] W' → Jx W'
  go : ∀ W t D vb s t', vb.oneCell' = true → Good t → (t.pl = 14 → s.length ≤ 255) → J W → TkPre W b vb t D → (∀ x ∈ b :: D, x ∉ KB) → takeM t s = some t' → YieldAt (FW none) 4 Try.prog l #[stv s, .bool true] W fun e W' => e = .returned (.bool true) ∧ J W' ∧ ∃ D', TkPre W' b vb t' D' ∧ Fr W ((b :: D) ++ KB) W' ∧ ∀ x ∈ D', x ∈ D ∨ W.heap.size ≤ x
  no : ∀ W t D vb s ok, vb.oneCell' = true → Good t → J W → TkPre W b vb t D → (∀ x ∈ b :: D, x ∉ KB) → (ok = true → (t.pl = 14 → s.length ≤ 255) ∧ takeM t s = none) → YieldAt (FW none) 4 Try.prog l #[stv s, .bool ok] W fun e W' => e = .returned (.bool false) ∧ Jx W' ∧ Fr W ((b :: D) ++ KB) W'
/-- What the iterator comes to. -/
def TxQ (W0 : World) (b : Nat) (D0 KB : List Nat) (J Jx : World → Prop) (r : Option (TS × List UInt8)) : Ending → World → Prop := fun e W' => (∃ v, e = .returned v) ∧ Fr W0 (b :: (D0 ++ KB)) W' ∧ match r with
  | some (t, bs) => J W' ∧ Good t ∧ ∃ D, RdAt W' b t bs D ∧ ∀ y ∈ D, (y ∈ D0 ∨ W0.heap.size ≤ y) ∧ y ∉ KB
  | none => Jx W'
/-- Between two rounds; E: the block of what is begun. -/
structure Inv (W0 : World) (b p2 p3 : Nat) (D0 KB : List Nat) (J : World → Prop) (W : World) (t : TS) (vn vo : Value) (D E : List Nat) : Prop where
  hv : TrV W vn vo t D
  hn : (b :: (E ++ D)).Nodup
  hJ : J W
  hf : Fr W0 (b :: (D0 ++ KB)) W
  hd : ∀ y ∈ E ++ D, y ∈ D0 ∨ W0.heap.size ≤ y
  hk : ∀ y ∈ b :: (E ++ D), y ∉ KB
  hE : ∀ y ∈ E, y < W.heap.size
  hb : b < W.heap.size
  hg : Good t
theorem trv_cells {W : World} {vn vo : Value} {t : TS} {D : List Nat} (hv : TrV W vn vo t D) : vn.oneCell' = true ∧ vo.oneCell' = true := by
  rcases hv with ⟨_, rfl, rfl, _⟩ | ⟨_, Bn, Bo, rfl, rfl, _⟩ <;> exact ⟨rfl, rfl⟩
section
variable {W0 : World} {b p1 p2 p3 l : Nat} {D0 KB : List Nat} {J Jx : World → Prop} {W w' : World} {t : TS} {vn vo : Value} {D E : List Nat}
/-- What the engine may write between two rounds. -/
theorem Inv.step (c : YCtx b l KB J Jx) (h : Inv W0 b p2 p3 D0 KB J W t vn vo D E) {S : List Nat} (hf : Fr W S w') (hS : ∀ x ∈ S, x ∈ b :: E) (B : Blk) (hB : B.1 ∈ E ∨ W.heap.size ≤ B.1) (hlt : B.1 < w'.heap.size) : Inv W0 b p2 p3 D0 KB J w' t vn vo D [B.1] := by
  have hn := List.nodup_cons.1 h.hn
  have hn2 := List.nodup_append.1 hn.2
  have hD : ∀ x ∈ D, x ∉ S := fun x hx hxS => by
    rcases List.mem_cons.1 (hS x hxS) with rfl | h2
    · exact hn.1 (List.mem_append.2 (.inr hx))
    · exact hn2.2.2 x h2 x hx rfl
  have hDl := h.hv.lt
  have hBb : B.1 ≠ b := fun e => by
    rcases hB with h2 | h2
    · exact hn.1 (List.mem_append.2 (.inl (e ▸ h2)))
    · have := h.hb; omega
  have hBD : B.1 ∉ D := fun hx => by
    rcases hB with h2 | h2
    · exact hn2.2.2 _ h2 _ hx rfl
    · have := hDl _ hx; omega
  have hSk : ∀ x ∈ S, x ∉ KB := fun x hx => h.hk x (by
    rcases List.mem_cons.1 (hS x hx) with h2 | h2
    · exact h2 ▸ List.mem_cons_self ..
    · exact List.mem_cons_of_mem _ (List.mem_append.2 (.inl h2)))
  refine ⟨h.hv.fr hf hD, ?_, c.fr _ _ S h.hJ hf hSk, h.hf.comp hf fun x hx => ?_, fun y hy => ?_, fun y hy => ?_, fun y hy => ?_, Nat.lt_of_lt_of_le h.hb hf.size, h.hg⟩
  · refine List.nodup_cons.2 ⟨fun hm => ?_, List.nodup_cons.2 ⟨hBD, hn2.2.1⟩⟩
    rcases List.mem_cons.1 hm with h2 | h2
    · exact hBb h2.symm
    · exact hn.1 (List.mem_append.2 (.inr h2))
  · rcases List.mem_cons.1 (hS x hx) with rfl | h2
    · exact .inl (List.mem_cons_self ..)
    · rcases h.hd x (List.mem_append.2 (.inl h2)) with h3 | h3
      · exact .inl (List.mem_cons_of_mem _ (List.mem_append.2 (.inl h3)))
      · exact .inr h3
  · rcases List.mem_cons.1 hy with rfl | h2
    · rcases hB with h3 | h3
      · exact h.hd _ (List.mem_append.2 (.inl h3))
      · exact .inr (Nat.le_trans h.hf.size h3)
    · exact h.hd _ (List.mem_append.2 (.inr h2))
  · rcases List.mem_cons.1 hy with rfl | hy
    · exact h.hk _ (List.mem_cons_self ..)
    rcases List.mem_cons.1 hy with rfl | h2
    · rcases hB with h3 | h3
      · exact h.hk _ (List.mem_cons_of_mem _ (List.mem_append.2 (.inl h3)))
      · intro hm
        have := c.lt _ h.hJ _ hm
        omega
    · exact h.hk _ (List.mem_cons_of_mem _ (List.mem_append.2 (.inr h2)))
  · obtain rfl := List.mem_singleton.1 hy; exact hlt
/-- The end, where nothing is asked of a round. -/
theorem Inv.fin (c : YCtx b l KB J Jx) (h : Inv W0 b p2 p3 D0 KB J W t vn vo D E) {vb : Value} {bs : List UInt8} (hb : ByV W vb bs E) (hr : RowAt (fun _ => ⟨b, 0, 0⟩) 0 (rdP (.v vb) (.v vn) (.v vo) t.pl t.path false) W) (v : Value) : TxQ W0 b D0 KB J Jx (some (t, bs)) (.returned v) W :=
  ⟨⟨v, rfl⟩, h.hf, h.hJ, h.hg, E ++ D, ⟨vb, E, D, rfl, hb, ⟨vn, vo, hr, h.hv, (List.nodup_cons.2 ⟨fun hm => (List.nodup_cons.1 h.hn).1 (List.mem_append.2 (.inr hm)), (List.nodup_append.1 (List.nodup_cons.1 h.hn).2).2.1⟩)⟩, h.hn⟩, fun y hy => ⟨h.hd y hy, h.hk y (List.mem_cons_of_mem _ hy)⟩⟩
theorem Inv.pre (h : Inv W0 b p2 p3 D0 KB J W t vn vo D E) {vb : Value} (hr : RowAt (fun _ => ⟨b, 0, 0⟩) 0 (rdP (.v vb) (.v vn) (.v vo) t.pl t.path false) W) : TkPre W b vb t D ∧ ∀ x ∈ b :: D, x ∉ KB :=
  ⟨⟨vn, vo, hr, h.hv, (List.nodup_cons.2 ⟨fun hm => (List.nodup_cons.1 h.hn).1 (List.mem_append.2 (.inr hm)), (List.nodup_append.1 (List.nodup_cons.1 h.hn).2).2.1⟩)⟩, fun x hx => h.hk x (by
    rcases List.mem_cons.1 hx with rfl | h2
    · exact List.mem_cons_self ..
    · exact List.mem_cons_of_mem _ (List.mem_append.2 (.inr h2)))⟩
/-- Behind a round that took a text. -/
theorem Inv.next (c : YCtx b l KB J Jx) (h : Inv W0 b p2 p3 D0 KB J W t vn vo D E) {t' : TS} {D' : List Nat} {vn' vo' : Value} (hg : Good t') (hJ : J w') (hv : TrV w' vn' vo' t' D') (hn : (b :: D').Nodup) (hf : Fr W ((b :: D) ++ KB) w') (hD : ∀ x ∈ D', x ∈ D ∨ W.heap.size ≤ x) : Inv W0 b p2 p3 D0 KB J w' t' vn' vo' D' E := by
  have hn1 := List.nodup_cons.1 h.hn
  have hn2 := List.nodup_append.1 hn1.2
  refine ⟨hv, ?_, hJ, h.hf.comp hf fun x hx => ?_, fun y hy => ?_, fun y hy => ?_, fun y hy => Nat.lt_of_lt_of_le (h.hE y hy) hf.size, Nat.lt_of_lt_of_le h.hb hf.size, hg⟩
  · refine List.nodup_cons.2 ⟨fun hm => ?_, List.nodup_append.2 ⟨hn2.1, (List.nodup_cons.1 hn).2, fun x hx y hy hxy => ?_⟩⟩
    · rcases List.mem_append.1 hm with h2 | h2
      · exact hn1.1 (List.mem_append.2 (.inl h2))
      · exact (List.nodup_cons.1 hn).1 h2
    · subst hxy
      rcases hD x hy with h2 | h2
      · exact hn2.2.2 x hx x h2 rfl
      · have := h.hE x hx; omega
  · rcases List.mem_append.1 hx with h2 | h2
    · rcases List.mem_cons.1 h2 with rfl | h3
      · exact .inl (List.mem_cons_self ..)
      · rcases h.hd x (List.mem_append.2 (.inr h3)) with h4 | h4
        · exact .inl (List.mem_cons_of_mem _ (List.mem_append.2 (.inl h4)))
        · exact .inr h4
    · exact .inl (List.mem_cons_of_mem _ (List.mem_append.2 (.inr h2)))
  · rcases List.mem_append.1 hy with h2 | h2
    · exact h.hd y (List.mem_append.2 (.inl h2))
    · rcases hD y h2 with h3 | h3
      · exact h.hd y (List.mem_append.2 (.inr h3))
      · exact .inr (Nat.le_trans h.hf.size h3)
  · rcases List.mem_cons.1 hy with rfl | hy
    · exact h.hk _ (List.mem_cons_self ..)
    rcases List.mem_append.1 hy with h2 | h2
    · exact h.hk y (List.mem_cons_of_mem _ (List.mem_append.2 (.inl h2)))
    · rcases hD y h2 with h3 | h3
      · exact h.hk y (List.mem_cons_of_mem _ (List.mem_append.2 (.inr h3)))
      · intro hm
        have := c.lt _ h.hJ _ hm
        omega
/-- Behind a round that was the last. -/
theorem Inv.out (c : YCtx b l KB J Jx) (h : Inv W0 b p2 p3 D0 KB J W t vn vo D E) (hJ : Jx w') (hf : Fr W ((b :: D) ++ KB) w') : Fr W0 (b :: (D0 ++ KB)) w' := h.hf.comp hf fun x hx => by
  rcases List.mem_append.1 hx with h2 | h2
  · rcases List.mem_cons.1 h2 with rfl | h3
    · exact .inl (List.mem_cons_self ..)
    · rcases h.hd x (List.mem_append.2 (.inr h3)) with h4 | h4
      · exact .inl (List.mem_cons_of_mem _ (List.mem_append.2 (.inl h4)))
      · exact .inr h4
  · exact .inl (List.mem_cons_of_mem _ (List.mem_append.2 (.inr h2)))
end
end
end Go.Proofs.Ytglipljilcdboaa
/- Of the program: the iterator over texts, behind the length of a text. No condition but what each names. -/
namespace Go.Proofs.Ytglipljilcdboaa
open Go.RowKit Go.Shelf
set_option linter.unusedVariables false
set_option linter.unusedSimpArgs false
section
open E
theorem yield_mono {n : Nat} {l : Nat} {args : Array Value} {W : World} {R R' : Ending → World → Prop} (h : YieldAt (FW none) n Try.prog l args W R) (hR : ∀ e W', R e W' → R' e W') : YieldAt (FW none) n Try.prog l args W R' := by
  obtain ⟨fn, tmps, assign, body, g1, g2⟩ := h
  exact ⟨fn, tmps, assign, body, g1, RoundIn.mono g2 hR⟩
/-- The boxes that the iterator holds. -/
structure BxT (W0 : World) (b p2 p3 : Nat) (D0 KB : List Nat) : Prop where
  r2 : RowAt (fun _ => ⟨p2, 0, 0⟩) 0 ⟨[.one (.v (mfv b))], false, none⟩ W0
  r3 : RowAt (fun _ => ⟨p3, 0, 0⟩) 0 ⟨[.one (.v (.pointer (some ⟨b, 0, none⟩)))], false, none⟩ W0
  n2 : p2 ∉ b :: (D0 ++ KB)
  n3 : p3 ∉ b :: (D0 ++ KB)
section
variable {W0 : World} {b p1 p2 p3 l : Nat} {D0 KB : List Nat} {J Jx : World → Prop}
/-- What is told at the head of the loop. -/
structure HX where
  W : World
  t : TS
  bs : List UInt8
  rest : List UInt8
  vn : Value
  vo : Value
  D : List Nat
  B : Blk
abbrev hxRows (b : Nat) (x : HX) : List (Nat × Row) := rwB 4 x.bs.length x.bs x.vn x.vo x.t.pl x.t.path b
abbrev hxAt (b p1 p2 p3 l : Nat) (Q : Exit → Act → World → Prop) (x : HX) : Prop :=
  At Try.prog x.W ⟨wlOf (envK b p1 p2 p3 x.B) (hxRows b x), envK b p1 p2 p3 x.B, []⟩ Try.f46.ntmps [] (lp Try.f46 0) Q (tmH l x.rest) (hxRows b x)
/-- The rows of the head, in memory. -/
theorem hx_rows (hbx : BxT W0 b p2 p3 D0 KB) {W : World} {t : TS} {vn vo : Value} {D : List Nat} {B : Blk} (hI : Inv W0 b p2 p3 D0 KB J W t vn vo D [B.1]) {bs : List UInt8} (hr : RowAt (fun _ => ⟨b, 0, 0⟩) 0 (rdP (.v (.slice (some ⟨B.1, 0, none⟩) bs.length B.3)) (.v vn) (.v vo) t.pl t.path false) W) (hb : RowAt (fun _ => B) 0 (byR bs) W) :
    (∀ p ∈ hxRows b ⟨W, t, bs, [], vn, vo, D, B⟩, RowAt (envK b p1 p2 p3 B) p.1 p.2 W ∧ pok p.2.ps) ∧ (∀ p ∈ hxRows b ⟨W, t, bs, [], vn, vo, D, B⟩, ∀ q ∈ hxRows b ⟨W, t, bs, [], vn, vo, D, B⟩, p.1 ≠ q.1 → p.2.w = true → (envK b p1 p2 p3 B p.1).1 ≠ (envK b p1 p2 p3 B q.1).1) := by
  have hn := List.nodup_cons.1 hI.hn
  have hbB : b ≠ B.1 := fun e => hn.1 (by rw [e]; simp)
  have hw2 : p2 < W0.heap.size := hbx.r2.1
  have hw3 : p3 < W0.heap.size := hbx.r3.1
  have x2 : b ≠ p2 := fun e => hbx.n2 (by rw [e]; simp)
  have x3 : b ≠ p3 := fun e => hbx.n3 (by rw [e]; simp)
  have y2 : B.1 ≠ p2 := fun e => by
    rcases hI.hd B.1 (by simp) with h | h
    · exact hbx.n2 (by rw [← e]; simp [h])
    · omega
  have y3 : B.1 ≠ p3 := fun e => by
    rcases hI.hd B.1 (by simp) with h | h
    · exact hbx.n3 (by rw [← e]; simp [h])
    · omega
  obtain ⟨hvn, hvo⟩ := trv_cells hI.hv
  refine ⟨fun p hp => ?_, fun p hp q hq hpq hw => ?_⟩
  · simp only [List.mem_cons, List.not_mem_nil, or_false] at hp
    rcases hp with rfl | rfl | rfl | rfl
    · exact ⟨rdP_mv hr rfl (slB_val (show envK b p1 p2 p3 B 4 = B from rfl) (byR_z hb)) rfl rfl, rdP_ok _ _ _ trivial hvn hvo⟩
    · exact ⟨rowAt_fr hbx.r2 hI.hf hbx.n2, fun p hp => by obtain rfl := List.mem_singleton.1 hp; rfl⟩
    · exact ⟨rowAt_fr hbx.r3 hI.hf hbx.n3, fun p hp => by obtain rfl := List.mem_singleton.1 hp; trivial⟩
    · exact ⟨byR_mv hb rfl, by_ok _⟩
  · simp only [List.mem_cons, List.not_mem_nil, or_false] at hp hq
    rcases hp with rfl | rfl | rfl | rfl <;> rcases hq with rfl | rfl | rfl | rfl <;> first | exact absurd rfl hpq | (cases hw; done) | exact hbB | exact x2 | exact x3 | exact y2 | exact y3 | exact Ne.symm hbB
theorem Inv.still (c : YCtx b l KB J Jx) {W w' : World} {t : TS} {vn vo : Value} {D E : List Nat} (h : Inv W0 b p2 p3 D0 KB J W t vn vo D E) {S : List Nat} (hf : Fr W S w') (hS : ∀ x ∈ S, x ∈ b :: E) : Inv W0 b p2 p3 D0 KB J w' t vn vo D E := by
  have hn := List.nodup_cons.1 h.hn
  have hn2 := List.nodup_append.1 hn.2
  have hD : ∀ x ∈ D, x ∉ S := fun x hx hxS => by
    rcases List.mem_cons.1 (hS x hxS) with rfl | h2
    · exact hn.1 (List.mem_append.2 (.inr hx))
    · exact hn2.2.2 x h2 x hx rfl
  have hSk : ∀ x ∈ S, x ∉ KB := fun x hx => h.hk x (by
    rcases List.mem_cons.1 (hS x hx) with h2 | h2
    · exact h2 ▸ List.mem_cons_self ..
    · exact List.mem_cons_of_mem _ (List.mem_append.2 (.inl h2)))
  refine ⟨h.hv.fr hf hD, h.hn, c.fr _ _ S h.hJ hf hSk, h.hf.comp hf fun x hx => ?_, h.hd, h.hk, fun y hy => Nat.lt_of_lt_of_le (h.hE y hy) hf.size, Nat.lt_of_lt_of_le h.hb hf.size, h.hg⟩
  rcases List.mem_cons.1 (hS x hx) with rfl | h2
  · exact .inl (List.mem_cons_self ..)
  · rcases h.hd x (List.mem_append.2 (.inl h2)) with h3 | h3
    · exact .inl (List.mem_cons_of_mem _ (List.mem_append.2 (.inl h3)))
    · exact .inr h3
theorem hop_no (c : YCtx b l KB J Jx) {W : World} {t : TS} {vn vo : Value} {D E : List Nat} (hI : Inv W0 b p2 p3 D0 KB J W t vn vo D E) {wl : List Nat} {B0 : Blk} (hwl : ∀ x ∈ wl, x ∈ b :: E) {xb : Lf} (hxb : xb.ok) {ops : Array Oper} {m d : Nat} {n : Nat} {tm1 : List (Nat × TV)} {rows1 : List (Nat × Row)} {s : List UInt8} {ok : Bool}
    (hy : yCall ops m (mkSt n tm1 rows1 []) = some (d, l, [.v (stv s), .v (.bool ok)])) (hrow : findR rows1 0 = some (rdP xb (.v vn) (.v vo) t.pl t.path false)) (hok : ok = true → (t.pl = 14 → s.length ≤ 255) ∧ takeM t s = none) (hdn : d < n) :
    ∀ a w ρ (K : Act → World → Prop) (QQ : Exit → Act → World → Prop), Den W ⟨wl, envK b p1 p2 p3 B0, []⟩ ρ (mkSt n tm1 rows1 []) a w → (∀ (x : World) v w' ρ', (Jx x ∧ Fr W0 (b :: (D0 ++ KB)) x) → Den x nB ρ' (mkSt n [(d, .v (.bool false))] [] []) (a.put (some d) v) w' → K (a.put (some d) v) w') → wpOpIn (FW none) 5 Try.prog ops QQ m K a w := by
  intro a w ρ K QQ hden hk
  have e0 : ρ 0 = ⟨b, 0, 0⟩ := hden.e0 0 (.inl (by decide))
  have r0 := (hden.rw 0 _ hrow).1
  have hI2 := hI.still c hden.fr hwl
  have hp := hI2.pre (vb := xb.val ρ) (rdP_mv r0 e0.symm rfl rfl rfl)
  have hy2 := c.no w t D (xb.val ρ) s ok (Lf.one_val hxb) hI.hg hI2.hJ hp.1 hp.2 hok
  refine (yCall_ok (n := 5) hy hden (yield_mono hy2 ?_)).2
  rintro e w' ⟨rfl, hJ, hf⟩
  exact ⟨false, rfl, hk w' (.bool false) w' (fun _ => ⟨0, 0, 0⟩) ⟨hJ, hI2.out c hJ hf⟩ (den_again (d := d) (tm' := [(d, .v (.bool false))]) (rows2 := []) (K := []) hden hdn (fun p hp => by obtain rfl := List.mem_singleton.1 hp; exact .inl ⟨rfl, rfl, rfl⟩) rfl (fun p hp => by cases hp) (fun p hp => by cases hp) rfl rfl)⟩
set_option maxRecDepth 100000 in
/-- No text: the round is told so. -/
theorem seg_no4n (c : YCtx b l KB J Jx) {W : World} {t : TS} {vn vo : Value} {D E : List Nat} (hI : Inv W0 b p2 p3 D0 KB J W t vn vo D E) {wl : List Nat} {B0 : Blk} (hwl : ∀ x ∈ wl, x ∈ b :: E)  (rest : List UInt8) (m : Int) :
    At Try.prog W ⟨wl, envK b p1 p2 p3 B0, []⟩ Try.f46.ntmps [] (rp Try.f46 4) (EndX Try.prog Try.f46 (TxQ W0 b D0 KB J Jx none)) (tmM l rest m) (rw0 vn vo t.pl t.path b) := by
  refine At.opX (α := World) 1 19 [] trivial (fun x => x) (fun _ => nB) (fun _ => [(19, .v (.bool false))]) (fun _ => []) (fun _ => []) (fun _ => []) (fun x => Jx x ∧ Fr W0 (b :: (D0 ++ KB)) x) rfl (tm1 := [(18, .v (yv l))]) (rows1 := (rw0 vn vo t.pl t.path b)) (o1 := []) (o2 := fun _ => []) (by kernel_rfl) trivial rfl ?_ (fun x _ => by kernel_rfl) (fun x _ => trivial) (fun x => rfl) (fun x hx => ?_)
  · exact hop_no c hI hwl (xb := .v (.slice none 0 0)) (s := []) (ok := false) rfl (by kernel_rfl) rfl (fun h => by cases h) (by decide)
  · exact At.fin rfl [] trivial [] (x := .tup []) (ob := []) (by kernel_rfl) trivial fun ρ w' hf _ => ⟨⟨_, rfl⟩, hx.2.comp hf (fun x hx => by cases hx), c.frx _ _ hx.1 hf⟩
set_option maxRecDepth 100000 in
/-- No text: the round is told so. -/
theorem seg_no4 (c : YCtx b l KB J Jx) {W : World} {t : TS} {vn vo : Value} {D E : List Nat} (hI : Inv W0 b p2 p3 D0 KB J W t vn vo D E) {wl : List Nat} {B0 : Blk} (hwl : ∀ x ∈ wl, x ∈ b :: E) (bs : List UInt8) (rest : List UInt8) (m : Int) :
    At Try.prog W ⟨wl, envK b p1 p2 p3 B0, []⟩ Try.f46.ntmps [] (rp Try.f46 4) (EndX Try.prog Try.f46 (TxQ W0 b D0 KB J Jx none)) (tmM l rest m) (rwB 4 bs.length bs vn vo t.pl t.path b) := by
  refine At.opX (α := World) 1 19 [] trivial (fun x => x) (fun _ => nB) (fun _ => [(19, .v (.bool false))]) (fun _ => []) (fun _ => []) (fun _ => []) (fun x => Jx x ∧ Fr W0 (b :: (D0 ++ KB)) x) rfl (tm1 := [(18, .v (yv l))]) (rows1 := (rwB 4 bs.length bs vn vo t.pl t.path b)) (o1 := []) (o2 := fun _ => []) (by kernel_rfl) trivial rfl ?_ (fun x _ => by kernel_rfl) (fun x _ => trivial) (fun x => rfl) (fun x hx => ?_)
  · exact hop_no c hI hwl (xb := slB 4 bs.length) (s := []) (ok := false) trivial (by kernel_rfl) rfl (fun h => by cases h) (by decide)
  · exact At.fin rfl [] trivial [] (x := .tup []) (ob := []) (by kernel_rfl) trivial fun ρ w' hf _ => ⟨⟨_, rfl⟩, hx.2.comp hf (fun x hx => by cases hx), c.frx _ _ hx.1 hf⟩
set_option maxRecDepth 100000 in
/-- No text: the round is told so. -/
theorem seg_no9 (c : YCtx b l KB J Jx) {W : World} {t : TS} {vn vo : Value} {D E : List Nat} (hI : Inv W0 b p2 p3 D0 KB J W t vn vo D E) {wl : List Nat} {B0 : Blk} (hwl : ∀ x ∈ wl, x ∈ b :: E) (bs : List UInt8) (rest : List UInt8) (m : Int) :
    At Try.prog W ⟨wl, envK b p1 p2 p3 B0, []⟩ Try.f46.ntmps [] (rp Try.f46 9) (EndX Try.prog Try.f46 (TxQ W0 b D0 KB J Jx none)) (tmM l rest m) (rwB 6002 bs.length bs vn vo t.pl t.path b) := by
  refine At.opX (α := World) 1 39 [] trivial (fun x => x) (fun _ => nB) (fun _ => [(39, .v (.bool false))]) (fun _ => []) (fun _ => []) (fun _ => []) (fun x => Jx x ∧ Fr W0 (b :: (D0 ++ KB)) x) rfl (tm1 := [(38, .v (yv l))]) (rows1 := (rwB 6002 bs.length bs vn vo t.pl t.path b)) (o1 := []) (o2 := fun _ => []) (by kernel_rfl) trivial rfl ?_ (fun x _ => by kernel_rfl) (fun x _ => trivial) (fun x => rfl) (fun x hx => ?_)
  · exact hop_no c hI hwl (xb := slB 6002 bs.length) (s := []) (ok := false) trivial (by kernel_rfl) rfl (fun h => by cases h) (by decide)
  · exact At.fin rfl [] trivial [] (x := .tup []) (ob := []) (by kernel_rfl) trivial fun ρ w' hf _ => ⟨⟨_, rfl⟩, hx.2.comp hf (fun x hx => by cases hx), c.frx _ _ hx.1 hf⟩
end
end
end Go.Proofs.Ytglipljilcdboaa
/- Of the program: the iterator over texts, where it hands a text out. No condition but what each names. -/
namespace Go.Proofs.Ytglipljilcdboaa
open Go.RowKit Go.Shelf
set_option linter.unusedVariables false
set_option linter.unusedSimpArgs false
section
open E
section
variable {W0 : World} {b p1 p2 p3 l : Nat} {D0 KB : List Nat} {J Jx : World → Prop}
abbrev tmY (l : Nat) (rest tx : List UInt8) (ok : Bool) : List (Nat × TV) := [(0, .v (yv l)), (2, ptrTo 2), (3, ptrTo 3), (5, .v (stv rest)), (9, .v (stv tx)), (10, .v (.bool ok))]
abbrev tmY1 (l : Nat) (rest tx : List UInt8) (ok : Bool) : List (Nat × TV) := [(0, .v (yv l)), (2, ptrTo 2), (3, ptrTo 3), (5, .v (stv rest)), (9, .v (stv tx)), (10, .v (.bool ok)), (61, .v (yv l)), (62, .v (stv tx)), (63, .v (.bool ok))]
set_option maxRecDepth 100000 in
theorem seg14_no (c : YCtx b l KB J Jx) {W : World} {t : TS} {vn vo : Value} {D E : List Nat} (hI : Inv W0 b p2 p3 D0 KB J W t vn vo D E) {wl : List Nat} {B0 : Blk} (hwl : ∀ x ∈ wl, x ∈ b :: E) (n : Nat) (bs rest tx : List UInt8) (ok : Bool) (hok : ok = true → (t.pl = 14 → tx.length ≤ 255) ∧ takeM t tx = none) :
    At Try.prog W ⟨wl, envK b p1 p2 p3 B0, []⟩ Try.f46.ntmps [] (rp Try.f46 14) (EndX Try.prog Try.f46 (TxQ W0 b D0 KB J Jx none)) (tmY l rest tx ok) (rwB 12003 n bs vn vo t.pl t.path b) := by
  refine At.opX (α := World) 3 64 [] trivial (fun x => x) (fun _ => nB) (fun _ => [(64, .v (.bool false))]) (fun _ => [(69, .v (.bool true))]) (fun _ => []) (fun _ => []) (fun x => Jx x ∧ Fr W0 (b :: (D0 ++ KB)) x) rfl (tm1 := tmY1 l rest tx ok) (rows1 := rwB 12003 n bs vn vo t.pl t.path b) (o1 := []) (o2 := fun _ => []) (by kernel_rfl) trivial rfl ?_ (fun x _ => by kernel_rfl) (fun x _ => trivial) (fun x => rfl) (fun x hx => ?_)
  · exact hop_no c hI hwl (xb := slB 12003 n) (s := tx) (ok := ok) trivial (by kernel_rfl) rfl hok (by decide)
  · exact At.fin rfl [] trivial [.y] (x := .tup []) (ob := [true = true]) (by kernel_rfl) ⟨rfl, trivial⟩ fun ρ w' hf _ => ⟨⟨_, rfl⟩, hx.2.comp hf (fun x hx => by cases hx), c.frx _ _ hx.1 hf⟩
set_option maxRecDepth 100000 in
theorem seg14_go (c : YCtx b l KB J Jx) (hbx : BxT W0 b p2 p3 D0 KB) {W : World} {t : TS} {vn vo : Value} {D E : List Nat} (hI : Inv W0 b p2 p3 D0 KB J W t vn vo D E) {wl : List Nat} {B0 : Blk} (hwl : ∀ x ∈ wl, x ∈ b :: E) (bs rest tx : List UInt8) (t' : TS) (hlen : t.pl = 14 → tx.length ≤ 255) (ht : takeM t tx = some t') {Q : Exit → Act → World → Prop}
    (hIH : ∀ x : HX, x.t = t' → x.bs = [] → x.rest = rest → Inv W0 b p2 p3 D0 KB J x.W t' x.vn x.vo x.D [x.B.1] → hxAt b p1 p2 p3 l Q x) :
    At Try.prog W ⟨wl, envK b p1 p2 p3 B0, []⟩ Try.f46.ntmps [] (rp Try.f46 14) Q (tmY l rest tx true) (rwB 12003 0 bs vn vo t.pl t.path b) := by
  refine At.opX (α := HX) 3 64 [] trivial (fun x => x.W) (fun x => ⟨wlOf (envK b p1 p2 p3 x.B) (rwB 4 0 [] x.vn x.vo t'.pl t'.path b), envK b p1 p2 p3 x.B, []⟩) (fun _ => [(0, .v (yv l)), (2, ptrTo 2), (3, ptrTo 3), (5, .v (stv rest)), (10, .v (.bool true)), (64, .v (.bool true))]) (fun _ => [(0, .v (yv l)), (2, ptrTo 2), (3, ptrTo 3), (5, .v (stv rest)), (69, .v (.bool false))]) (fun x => rwB 4 0 [] x.vn x.vo t'.pl t'.path b) (fun x => rwB 4 0 [] x.vn x.vo t'.pl t'.path b) (fun x => x.t = t' ∧ x.bs = [] ∧ x.rest = rest ∧ Inv W0 b p2 p3 D0 KB J x.W t' x.vn x.vo x.D [x.B.1]) rfl (tm1 := tmY1 l rest tx true) (rows1 := rwB 12003 0 bs vn vo t.pl t.path b) (o1 := []) (o2 := fun _ => []) (by kernel_rfl) trivial rfl ?_ (fun x _ => by kernel_rfl) (fun x _ => trivial) (fun x => rfl) (fun x hx => ?_)
  · intro a w ρ K QQ hden hk
    have e0 : ρ 0 = ⟨b, 0, 0⟩ := hden.e0 0 (.inl (by decide))
    have e2 : ρ 2 = ⟨p2, 0, 0⟩ := hden.e0 2 (.inl (by decide))
    have e3 : ρ 3 = ⟨p3, 0, 0⟩ := hden.e0 3 (.inl (by decide))
    have r0 := (hden.rw 0 _ rfl).1
    obtain ⟨r4, _, _, _, hw4⟩ := hden.rw 12003 _ rfl
    obtain ⟨B, hB⟩ : ∃ B, B = ρ 12003 := ⟨_, rfl⟩
    have hwB : B.1 ∈ E ∨ W.heap.size ≤ B.1 := by
      rw [hB]
      rcases hw4 rfl with h | h
      · exact .inr h
      · rcases List.mem_cons.1 (hwl _ h) with h2 | h2
        · have := hden.ds 0 12003 _ _ rfl rfl (by decide) rfl
          rw [e0] at this
          exact absurd h2.symm this
        · exact .inl h2
    have hz : B.2 = 0 := by rw [hB]; exact byR_z r4
    have hI2 := hI.step c hden.fr hwl B hwB (by rw [hB]; exact r4.1)
    have hvb : (slB 12003 0).val ρ = .slice (some ⟨B.1, 0, none⟩) 0 B.3 := slB_val hB.symm hz
    have hp := hI2.pre (vb := .slice (some ⟨B.1, 0, none⟩) 0 B.3) (rdP_mv r0 e0.symm hvb.symm rfl rfl)
    have hy2 := c.go w t D (.slice (some ⟨B.1, 0, none⟩) 0 B.3) tx t' rfl hI.hg hlen hI2.hJ hp.1 hp.2 ht
    refine (yCall_ok (n := 5) (d := 64) (l := l) (vs := [.v (stv tx), .v (.bool true)]) (by kernel_rfl) hden (yield_mono hy2 ?_)).2
    rintro e w' ⟨rfl, hJ, D', ⟨vn', vo', h1, hv', hn'⟩, hf, hD'⟩
    have hI3 := hI2.next c (good_take hI.hg hlen ht) hJ hv' hn' hf hD'
    have hBk : B.1 ∉ (b :: D) ++ KB := by
      intro hm
      have hn := List.nodup_cons.1 hI2.hn
      rcases List.mem_append.1 hm with h2 | h2
      · rcases List.mem_cons.1 h2 with h3 | h3
        · exact hn.1 (by rw [← h3]; simp)
        · exact (List.nodup_cons.1 hn.2).1 h3
      · exact hI2.hk B.1 (by simp) h2
    have hb4 : RowAt (fun _ => B) 0 (byR []) w' := rowAt_fr (byR_mv (ρ := ρ) (r := 12003) (byR_short r4 0) hB) hf hBk
    obtain ⟨g1, g2⟩ := hx_rows (bs := []) hbx hI3 h1 hb4
    refine ⟨true, rfl, hk ⟨w', t', [], rest, vn', vo', D', B⟩ (.bool true) w' (envK b p1 p2 p3 B) ⟨rfl, rfl, rfl, hI3⟩ ?_⟩
    refine den_again (d := 64) hden (by decide) (fun p hp => ?_) rfl g1 g2 rfl rfl
    simp only [List.mem_cons, List.not_mem_nil, or_false] at hp
    rcases hp with rfl | rfl | rfl | rfl | rfl | rfl
    · exact .inr ⟨(show (0 : Nat) ≠ 64 by decide), rfl, fun r hr => by cases hr⟩
    · exact .inr ⟨(show (2 : Nat) ≠ 64 by decide), rfl, fun r hr => by obtain rfl := List.mem_singleton.1 hr; exact e2.symm⟩
    · exact .inr ⟨(show (3 : Nat) ≠ 64 by decide), rfl, fun r hr => by obtain rfl := List.mem_singleton.1 hr; exact e3.symm⟩
    · exact .inr ⟨(show (5 : Nat) ≠ 64 by decide), rfl, fun r hr => by cases hr⟩
    · exact .inr ⟨(show (10 : Nat) ≠ 64 by decide), rfl, fun r hr => by cases hr⟩
    · exact .inl ⟨rfl, rfl, rfl⟩
  · obtain ⟨W', t2, bs2, rest2, vn', vo', D', B'⟩ := x
    obtain ⟨h1, h2, h3, h4⟩ := hx
    simp only at h1 h2 h3 h4
    subst h1 h2 h3
    exact At.run rfl [] trivial [.n] (tm2 := tmH l rest2) (rows2 := rwB 4 0 [] vn' vo' t2.pl t2.path b) (ob := [false = false]) (td := lp Try.f46 0) (by kernel_rfl) ⟨rfl, trivial⟩ rfl rfl (by intro h; cases h) (hIH ⟨W', t2, [], rest2, vn', vo', D', B'⟩ rfl rfl rfl h4)
end
end
end Go.Proofs.Ytglipljilcdboaa
