/- Several texts, one behind the other; each says by itself what it proves, and on what conditions. -/
import Derived.Test.YtglipljilcdboaaV18
import Derived.RangeFuncNested
import Derived.RangeFuncBound
import Derived.RangeFuncCalls
import Derived.RangeFuncLeaves
import Derived.WalkKit
import Derived.OwnWalkIn
import Derived.TacticsInMore
import Derived.RangeFuncBox
import Derived.RangeFuncFrom
/- A region that draws its order, of which every operation but the last is pure: by values, whatever the order; a state told anew. No condition. -/
namespace Go.Proofs.Ytglipljilcdboaa.E
open Go Go.RowKit
set_option linter.unusedVariables false
set_option linter.unusedSimpArgs false

theorem countP_lt {α : Type} {p q : α → Bool} : ∀ {l : List α}, (∀ x ∈ l, q x = true → p x = true) → (∃ x ∈ l, p x = true ∧ q x = false) → l.countP q < l.countP p
  | [], _, ⟨x, hx, _⟩ => by cases hx
  | y :: l, h, ⟨x, hx, h1, h2⟩ => by
    have hl : l.countP q ≤ l.countP p := List.countP_mono_left fun z hz => h z (List.mem_cons_of_mem _ hz)
    rw [List.countP_cons, List.countP_cons]
    rcases List.mem_cons.1 hx with rfl | hx
    · rw [h1, h2]; simp; omega
    · have := countP_lt (fun z hz => h z (List.mem_cons_of_mem _ hz)) ⟨x, hx, h1, h2⟩
      have hy := h y (List.mem_cons_self ..)
      cases hq : q y with
      | true => rw [hy hq]; simp; omega
      | false => cases p y <;> simp <;> omega
/-- What is known of an activation: temporaries that stay (B), and those that are done (D: what each operation makes). -/
structure Kn (n : Nat) (df : List Deferred) (B D : List (Tmp × Value)) (L : Nat → Bool) (a : Act) : Prop where
  sz : a.tmps.size = n
  df : a.defers = df
  b : ∀ p ∈ B, a.tmps[p.1]? = some p.2
  d : ∀ i p, D[i]? = some p → L i = true → a.tmps[p.1]? = some p.2
theorem Kn.put {n : Nat} {df : List Deferred} {B D : List (Tmp × Value)} {L L' : Nat → Bool} {a : Act} (h : Kn n df B D L a) {i : Nat} {p : Tmp × Value} (hp : D[i]? = some p) (hL : ∀ j, L' j = true → L j = true ∨ j = i) (hn : (D.map (·.1)).Nodup) (hB : ∀ q ∈ B, q.1 ≠ p.1) (hs : p.1 < n) : Kn n df B D L' (a.put (some p.1) p.2) := by
  have hput : ∀ t, (a.put (some p.1) p.2).tmps[t]? = if t = p.1 then some p.2 else a.tmps[t]? := by
    intro t
    show (a.tmps.setIfInBounds p.1 p.2)[t]? = _
    rw [Array.getElem?_setIfInBounds]
    by_cases ht : t = p.1
    · subst ht; simp [h.sz, hs]
    · rw [if_neg (Ne.symm ht), if_neg ht]
  refine ⟨by rw [put_size]; exact h.sz, by rw [put_defers]; exact h.df, fun q hq => by rw [hput, if_neg (hB q hq)]; exact h.b q hq, fun j q hq hj => ?_⟩
  rw [hput]
  by_cases he : q.1 = p.1
  · have h1 : i < D.length := (List.getElem?_eq_some_iff.1 hp).1
    have h2 : j < D.length := (List.getElem?_eq_some_iff.1 hq).1
    have hpw := List.pairwise_iff_getElem.1 hn
    have e1 : (D.map (·.1))[i]'(by simpa using h1) = p.1 := by rw [List.getElem_map, (List.getElem?_eq_some_iff.1 hp).2]
    have e2 : (D.map (·.1))[j]'(by simpa using h2) = q.1 := by rw [List.getElem_map, (List.getElem?_eq_some_iff.1 hq).2]
    have : i = j := by
      rcases Nat.lt_trichotomy i j with h | h | h
      · exact absurd (e1.trans (he.symm.trans e2.symm)) (hpw i j _ _ h)
      · exact h
      · exact absurd (e2.trans (he.trans e1.symm)) (hpw j i _ _ h)
    subst this
    rw [hp] at hq
    cases hq
    rw [if_pos rfl]
  · rw [if_neg he]
    rcases hL j hj with h3 | h3
    · exact h.d j q hq h3
    · subst h3
      rw [hp] at hq
      cases hq
      exact absurd rfl he
theorem any_pure {P : Program} {r : Option Nat} {m n : Nat} {df : List Deferred} {ops : Array Oper} {B D : List (Tmp × Value)} {w : World} (hf : fwd ops = true) (hlen : D.length = ops.size) (hn : (D.map (·.1)).Nodup) (hB : ∀ q ∈ B, ∀ p ∈ D, q.1 ≠ p.1) (hs : ∀ p ∈ D, p.1 < n)
    (hg : ∀ (i : Nat) (x : Oper), ops[i]? = some x → x.guard = none ∧ (∀ c, x.op ≠ .defer c) ∧ ∀ p, D[i]? = some p → x.dst = some p.1)
    (hst : ∀ (i : Nat) (x : Oper) (p : Tmp × Value) (L : Nat → Bool) (a : Act), ops[i]? = some x → D[i]? = some p → (∀ e ∈ x.after, Region.binds .any e = true → L e.on = true) → Kn n df B D L a → (execOp a.eval x).run P w = .ok (.value p.2) w) :
    ∀ (fuel : Nat) (listed : Array Bool) (a : Act), listed.size = ops.size → (List.range ops.size).countP (fun i => !listed.getD i false) ≤ fuel → Kn n df B D (fun i => listed.getD i false) a →
      wpAnyIn (FW r) m P .any ops (fun e a w' => e = .normal ∧ w' = w ∧ Kn n df B D (fun _ => true) a) fuel listed a w := by
  have hall : ∀ (listed : Array Bool), listed.size = ops.size → Region.ready .any ops listed = [] → ∀ i, i < ops.size → listed.getD i false = true := by
    intro listed hsz h0 i
    induction i using Nat.strongRecOn with
    | ind i ih =>
      intro hi
      cases hgt : listed.getD i false with
      | true => rfl
      | false =>
        have hio : ops[i]? = some ops[i] := Array.getElem?_eq_getElem hi
        have : i ∈ Region.ready .any ops listed := by
          refine mem_ready.2 ⟨?_, ops[i], hio, fun e he hb => ?_⟩
          · rw [Array.getD_eq_getD_getElem?, Array.getElem?_eq_getElem (by omega)] at hgt ⊢
            exact hgt
          · exact ih e.on (fwd_ok hf hio e he hb) (by have := fwd_ok hf hio e he hb; omega)
        rw [h0] at this; cases this
  have hdone : ∀ (listed : Array Bool) (a : Act), listed.size = ops.size → Region.ready .any ops listed = [] → Kn n df B D (fun i => listed.getD i false) a → Kn n df B D (fun _ => true) a := by
    intro listed a hsz h0 hk
    exact ⟨hk.sz, hk.df, hk.b, fun i p hp _ => hk.d i p hp (hall listed hsz h0 i (by have := (List.getElem?_eq_some_iff.1 hp).1; omega))⟩
  have hstep : ∀ (listed : Array Bool) (a : Act) (i : Nat) (K : Act → World → Prop), listed.size = ops.size → i ∈ Region.ready .any ops listed → Kn n df B D (fun i => listed.getD i false) a → (∀ a', Kn n df B D (fun j => (listed.setIfInBounds i true).getD j false) a' → K a' w) → ∀ Q, wpOpIn (FW r) m P ops Q i K a w := by
    intro listed a i K hsz hi hk hK Q
    obtain ⟨_, x, hx, hal⟩ := mem_ready.1 hi
    have hin : i < ops.size := (Array.getElem?_eq_some_iff.1 hx).1
    obtain ⟨g1, g2, g3⟩ := hg i x hx
    obtain ⟨p, hp⟩ : ∃ p, D[i]? = some p := ⟨_, List.getElem?_eq_getElem (by omega)⟩
    have hex := hst i x p _ a hx hp (fun e he hb => hal e he hb) hk
    unfold wpOpIn
    rw [hx]
    simp only
    rw [if_pos (by simp [Region.wanted, g1])]
    refine ⟨fun _ _ => trivial, ?_⟩
    rw [Oper.semAt_eq _ _ _ g2, hex]
    show K (a.put x.dst p.2) w
    rw [g3 p hp]
    refine hK _ (hk.put hp (fun j hj => ?_) hn (fun q hq => hB q hq p (List.mem_of_getElem? hp)) (hs p (List.mem_of_getElem? hp)))
    by_cases hji : j = i
    · exact .inr hji
    · rw [getD_set_ne false (Ne.symm hji)] at hj; exact .inl hj
  intro fuel
  induction fuel with
  | zero =>
    intro listed a hsz hc hk
    have h0 : Region.ready .any ops listed = [] := by
      cases hq : Region.ready .any ops listed with
      | nil => rfl
      | cons j js =>
        have hj : j ∈ Region.ready .any ops listed := by rw [hq]; exact List.mem_cons_self ..
        obtain ⟨h0, x, hx, _⟩ := mem_ready.1 hj
        have hjn : j < ops.size := (Array.getElem?_eq_some_iff.1 hx).1
        have := List.countP_eq_zero.1 (Nat.le_zero.1 hc) j (List.mem_range.2 hjn)
        rw [false_of_true h0] at this
        exact absurd rfl this
    exact ⟨h0, rfl, rfl, hdone listed a hsz h0 hk⟩
  | succ fuel ih =>
    intro listed a hsz hc hk
    refine ⟨fun h0 => ⟨rfl, rfl, hdone listed a hsz h0 hk⟩, fun i hi => hstep listed a i _ hsz hi hk (fun a' hk' => ih _ a' (by simp [hsz]) ?_ hk') _⟩
    obtain ⟨h0, x, hx, _⟩ := mem_ready.1 hi
    have hin : i < ops.size := (Array.getElem?_eq_some_iff.1 hx).1
    have := countP_lt (l := List.range ops.size) (p := fun j => !listed.getD j false) (q := fun j => !(listed.setIfInBounds i true).getD j false) (fun j _ hj => by
      by_cases hji : j = i
      · subst hji
        rw [Array.getD_eq_getD_getElem?, Array.getElem?_setIfInBounds] at hj
        simp [hsz, hin] at hj
      · rw [getD_set_ne false (Ne.symm hji)] at hj; exact hj) ⟨i, List.mem_range.2 hin, by rw [false_of_true h0]; rfl, by
        rw [Array.getD_eq_getD_getElem?, Array.getElem?_setIfInBounds]
        simp [hsz, hin]⟩
    omega
/-- A state told anew. -/
theorem den_new {σ : Env} {n : Nat} {tm : List (Nat × TV)} {rows : List (Nat × Row)} {a : Act} {w w0 : World} {wl : List Nat} {mk K : List Nat} (hsz : a.tmps.size = n) (hdf : a.defers = mk.map markD) (hmk : MkOk w0.heap.size w mk) (hko : KeepsOthers w0 w) (hf : Fr w0 wl w)
    (ht : ∀ p ∈ tm, a.tmps[p.1]? = some (p.2.val σ) ∧ p.2.ok) (hi : idsOk tm rows [] = true) (hr : ∀ p ∈ rows, RowAt σ p.1 p.2 w ∧ pok p.2.ps) (hds : ∀ p ∈ rows, ∀ q ∈ rows, p.1 ≠ q.1 → p.2.w = true → (σ p.1).1 ≠ (σ q.1).1) (hw : ∀ p ∈ rows, p.2.w = true → w0.heap.size ≤ (σ p.1).1 ∨ (σ p.1).1 ∈ wl) (hK : K.all (hasN (rows.map (·.1))) = true) (hk5 : rows.all (fun p => Nat.ble (p.1 + 1) 500 || Nat.ble 1000 p.1) = true) :
    Den w0 ⟨wl, σ, K⟩ σ (mkSt n tm rows [] mk) a w := by
  simp only [idsOk, Bool.and_eq_true, List.all_eq_true] at hi
  have hu : ∀ r, (mkSt n tm rows [] mk).used r = hasN (rows.map (·.1)) r := fun r => by show hasN (rows.map (·.1) ++ []) r = _; rw [List.append_nil]
  refine ⟨hsz, hdf, hmk, hko, fun t x hx => ?_, fun r y hr2 => ?_, fun r q y z hr2 hq hrq hw2 => ?_, hf, fun _ _ => rfl, fun r hr2 => ?_, fun g hg hug => ?_, fun r B h => by cases h⟩
  · have hm := findT_mem (show findT tm t = some x from hx)
    obtain ⟨h1, h2⟩ := ht _ hm
    exact ⟨h1, h2, fun r hr2 => hi.1 _ hm r hr2⟩
  · have hm := findR_mem (show findR rows r = some y from hr2)
    obtain ⟨g1, g2⟩ := hr _ hm
    exact ⟨g1, g2, by rw [hu]; exact hasN_iff.2 (List.mem_map.2 ⟨_, hm, rfl⟩), fun p hp => hi.2 _ hm p hp, fun hw2 => hw _ hm hw2⟩
  · exact hds _ (findR_mem (show findR rows r = some y from hr2)) _ (findR_mem (show findR rows q = some z from hq)) hrq hw2
  · rw [hu]; exact List.all_eq_true.1 hK r hr2
  · rw [hu] at hug
    obtain ⟨p, hp, he⟩ := List.mem_map.1 (hasN_iff.1 hug)
    have := List.all_eq_true.1 hk5 p hp
    rw [Bool.or_eq_true] at this
    rcases this with h5 | h5 <;> have := Nat.le_of_ble_eq_true h5 <;> omega
end Go.Proofs.Ytglipljilcdboaa.E
/- A call under a guard, by its contract; a run to an exit. No condition. -/
namespace Go.Proofs.Ytglipljilcdboaa.E
open Go Go.RowKit
set_option linter.unusedVariables false
set_option linter.unusedSimpArgs false
/-- Which function is called, with what, and where the answer goes. -/
def xCallG (ops : Array Oper) (m : Nat) (s : St) : Option (Tmp × FuncId × Array Value × Array Value × List TV) :=
  match ops[m]? with
  | some o => match guardOk (fun _ => none) 0 s ops o, o.dst, o.op with
    | some ([], true), some d, .call c => match c.callee with
      | .value y => match evalO s y, evalL s c.args.toList with
        | some (.s (.lf (.v (.func (.func f) fi ca)))), some vs => some (d, f, fi, ca, vs)
        | _, _ => none
      | _ => none
    | _, _, _ => none
  | none => none
theorem xCallG_ok {P : Program} {ops : Array Oper} {m : Nat} {s : St} {d : Tmp} {f : FuncId} {fi ca : Array Value} {vs : List TV} {w0 : World} {wr : Bs} {ρ : Env} {a : Act} {w : World} {Q : Exit → Act → World → Prop} {K : Act → World → Prop} {r : Option Nat} {n : Nat} (h : xCallG ops m s = some (d, f, fi, ca, vs)) (hd : Den w0 wr ρ s a w) (he : Enters P f)
    (hc : Calls P f (fi ++ (vs.map (TV.val ρ)).toArray ++ ca) w fun e w' => ∃ v, e = .returned v ∧ K (a.put (some d) v) w') : wpOpIn (FW r) n P ops Q m K a w := by
  unfold xCallG at h
  split at h
  · rename_i o ho
    split at h
    · rename_i d2 c hg hdst hop
      split at h
      · rename_i y hcal
        split at h
        · rename_i f2 fi ca vs2 hy hvs
          cases h
          have h1 := (evalO_ok hd hy).1
          have h2 := (evalL_ok hd hvs).1
          unfold wpOpIn
          rw [ho]
          simp only
          rw [if_pos (guardOk_ok hd hg trivial)]
          refine ⟨fun _ _ => trivial, ?_⟩
          rw [Oper.semAt_eq _ _ _ (by rw [hop]; intro c hc; cases hc)]
          have h3 : c.args.map a.eval = (vs.map (TV.val ρ)).toArray := by
            apply Array.ext'
            rw [Array.toList_map, h2]
          have hrun : (execOp a.eval o).run P w = .ok (.enter f (fi ++ (vs.map (TV.val ρ)).toArray ++ ca)) w := by
            unfold execOp
            rw [hop]
            simp only [resolve, hcal, h1, TV.val, SV.val, Lf.val, h3, Deferred.ofValue, Sem.run_bind, Sem.run_pure, Result.andThen_ok, invoke, Array.append_empty, Array.empty_append]
            exact he _ w
          rw [hrun]
          refine ⟨fun h => by simp [FW, Fence.wide] at h, CallsIn.mono (callsIn_FW hc) ?_⟩
          rintro e w' ⟨v, rfl, hk⟩
          rw [hdst]
          exact hk
        · cases h
      · cases h
    · cases h
  · cases h

/-- A run to an exit. -/
theorem At.finQ {r : Option Nat} {mk : List Nat} {kn : List (Nat × Blk)} {P : Program} {w0 : World} {wr : Bs} {n : Nat} {gl : List Nat} {todo : List Item} {Q : Exit → Act → World → Prop} {tm : List (Nat × TV)} {rows rows2 : List (Nat × Row)} {ob : List Prop} {e : Exit} (hm : P.follows .mixedOrders = true) (cs : List (Nat × Hint)) (hC : allC P cs) (π : List Ch)
    (h : runE P (findC cs) π todo (mkSt n tm rows gl mk kn) [] (rows2.map (·.1)) = some (ob, e, [], rows2.map fun p => some p.2)) (ho : all ob)
    (hQ : ∀ a ρ w, KeepsOthers w0 w → Fr w0 wr.l w → (∀ r, r < 1000 → ρ r = wr.e r) → (∀ p ∈ rows2, RowAt ρ p.1 p.2 w ∧ pok p.2.ps ∧ (p.2.w = true → w0.heap.size ≤ (ρ p.1).1 ∨ (ρ p.1).1 ∈ wr.l)) → Q e a w) : At P w0 wr n gl todo Q tm rows r mk kn := by
  intro a w ρ hd
  unfold runE at h
  split at h
  · rename_i o1 e1 t hg
    simp only [Option.some.injEq, Prod.mk.injEq] at h
    obtain ⟨rfl, rfl, _, e2⟩ := h
    refine go_ok hm (findC_ok hC) 10000 π todo _ o1 (.fin e1) t hg ho (fun a w ρ hd => ?_) a w ρ hd
    refine hQ a ρ w hd.ko hd.fr (fun r hr => hd.e0 r (.inl hr)) fun p hp => ?_
    rw [List.map_map] at e2
    have := (List.map_inj_left.1 e2) p hp
    obtain ⟨k1, k2, _, _, k5⟩ := hd.rw p.1 p.2 this
    exact ⟨k1, k2, k5⟩
  · cases h
end Go.Proofs.Ytglipljilcdboaa.E
/- Of the program: what feeding does with a text. Its conditions: what a tree keeps. -/
namespace Go.Proofs.Ytglipljilcdboaa
open Go.RowKit Go.Shelf
set_option linter.unusedVariables false
set_option linter.unusedSimpArgs false
section
open E
abbrev nilS : Value := .slice none 0 0
abbrev wrongR : Row := rdP (.v nilS) (.v nilS) (.v nilS) 0 [] true
abbrev intR (x : Int) : Row := ⟨[.one (.v (.int .i64 x))], true, none⟩
def envF (b : Nat) (pr pc : Blk) : Env := fun i => if i = 0 then ⟨b, 0, 0⟩ else if i = 1 then pr else pc
abbrev rwF (vb vn vo : Value) (p : Nat) (pa : List UInt8) : List (Nat × Row) := [(0, rdP (.v vb) (.v vn) (.v vo) p pa false), (1, ⟨[.one (.ptr 0 0 0 0 0)], false, none⟩), (2, intR 0)]
abbrev roR (r : Row) : Row := ⟨r.ps, false, none⟩
abbrev rwF0 (vb vn vo : Value) (p : Nat) (pa : List UInt8) : List (Nat × Row) := [(0, roR (rdP (.v vb) (.v vn) (.v vo) p pa false)), (1, ⟨[.one (.ptr 0 0 0 0 0)], false, none⟩), (2, roR (intR 0))]
abbrev tmFd (tx : List UInt8) (ok : Bool) : List (Nat × TV) := [(2, ptrTo 1), (4, ptrTo 2), (5, .v (stv tx)), (6, .v (.bool ok))]
theorem ro_row {ρ : Env} {r : Nat} {row : Row} {w : World} (h : RowAt ρ r row w) : RowAt ρ r (roR row) w := ⟨h.1, fun j v hv => ⟨(h.2.1 j v hv).1, fun h => by cases h⟩, (fun e k h => by cases h), h.2.2.2⟩
/-- Feeding's own cells: where the reader lies, what it tells. -/
structure Own (W : World) (b : Nat) (pr pc : Blk) (x : Int) : Prop where
  r : RowAt (fun _ => pr) 0 ⟨[.one (.v (.pointer (some ⟨b, 0, none⟩)))], false, none⟩ W
  c : RowAt (fun _ => pc) 0 (intR x) W
  n1 : b ≠ pr.1
  n2 : b ≠ pc.1
  n3 : pr.1 ≠ pc.1
noncomputable abbrev bodyF : Code := hdBody (rg Try.f20 0)
/-- An activation as it stands when a round's code begins. -/
structure ActF (a : Act) (b : Nat) (pr pc : Blk) (tx : List UInt8) (ok : Bool) : Prop where
  sz : a.tmps.size = Try.f20.ntmps
  df : a.defers = []
  t2 : a.tmps[2]? = some ((ptrTo 1).val (envF b pr pc))
  t4 : a.tmps[4]? = some ((ptrTo 2).val (envF b pr pc))
  t5 : a.tmps[5]? = some (stv tx)
  t6 : a.tmps[6]? = some (.bool ok)
theorem act_den {a : Act} {b : Nat} {pr pc : Blk} {tx : List UInt8} {ok : Bool} (h : ActF a b pr pc tx ok) {rows : List (Nat × Row)} {w : World} {wl : List Nat} (hi : idsOk (tmFd tx ok) rows [] = true) (hr : ∀ p ∈ rows, RowAt (envF b pr pc) p.1 p.2 w ∧ pok p.2.ps) (hds : ∀ p ∈ rows, ∀ q ∈ rows, p.1 ≠ q.1 → p.2.w = true → (envF b pr pc p.1).1 ≠ (envF b pr pc q.1).1) (hw : ∀ p ∈ rows, p.2.w = true → w.heap.size ≤ (envF b pr pc p.1).1 ∨ (envF b pr pc p.1).1 ∈ wl) (hk5 : rows.all (fun p => Nat.ble (p.1 + 1) 500 || Nat.ble 1000 p.1) = true) : Den w ⟨wl, envF b pr pc, []⟩ (envF b pr pc) (mkSt Try.f20.ntmps (tmFd tx ok) rows []) a w := by
  refine den_new h.sz h.df ⟨List.nodup_nil, fun D hD => by cases hD⟩ (KeepsOthers.refl _) (Fr.refl _ _) (fun p hp => ?_) hi hr hds hw rfl hk5
  simp only [List.mem_cons, List.not_mem_nil, or_false] at hp
  rcases hp with rfl | rfl | rfl | rfl
  · exact ⟨h.t2, trivial⟩
  · exact ⟨h.t4, trivial⟩
  · exact ⟨h.t5, rfl⟩
  · exact ⟨h.t6, rfl⟩
theorem own_rows {W : World} {b : Nat} {pr pc : Blk} (ho : Own W b pr pc 0) {vb vn vo : Value} {p : Nat} {pa : List UInt8} (hvb : vb.oneCell' = true) (hvn : vn.oneCell' = true) (hvo : vo.oneCell' = true) (h0 : RowAt (fun _ => ⟨b, 0, 0⟩) 0 (rdP (.v vb) (.v vn) (.v vo) p pa false) W) :
    (∀ q ∈ rwF vb vn vo p pa, RowAt (envF b pr pc) q.1 q.2 W ∧ pok q.2.ps) ∧ (∀ q ∈ rwF vb vn vo p pa, ∀ r ∈ rwF vb vn vo p pa, q.1 ≠ r.1 → q.2.w = true → (envF b pr pc q.1).1 ≠ (envF b pr pc r.1).1) ∧ (∀ q ∈ rwF vb vn vo p pa, q.2.w = true → W.heap.size ≤ (envF b pr pc q.1).1 ∨ (envF b pr pc q.1).1 ∈ [b, pc.1]) := by
  refine ⟨fun q hq => ?_, fun q hq r hr hqr hw => ?_, fun q hq hw => ?_⟩
  · simp only [List.mem_cons, List.not_mem_nil, or_false] at hq
    rcases hq with rfl | rfl | rfl
    · exact ⟨rdP_mv h0 rfl rfl rfl rfl, rdP_ok _ _ _ hvb hvn hvo⟩
    · exact ⟨ho.r, fun p hp => by obtain rfl := List.mem_singleton.1 hp; trivial⟩
    · exact ⟨ho.c, fun p hp => by obtain rfl := List.mem_singleton.1 hp; rfl⟩
  · simp only [List.mem_cons, List.not_mem_nil, or_false] at hq hr
    rcases hq with rfl | rfl | rfl <;> rcases hr with rfl | rfl | rfl <;> first | exact absurd rfl hqr | (cases hw; done) | exact ho.n1 | exact ho.n2 | exact Ne.symm ho.n2 | exact Ne.symm ho.n3
  · simp only [List.mem_cons, List.not_mem_nil, or_false] at hq
    rcases hq with rfl | rfl | rfl
    · exact .inr (List.mem_cons_self ..)
    · cases hw
    · exact .inr (List.mem_cons_of_mem _ (List.mem_singleton.2 rfl))
/-- What a round that is the last leaves. -/
def NoQ (W : World) (b : Nat) (pr pc : Blk) (D : List Nat) (e : Exit) (a : Act) (W' : World) : Prop := e = .ret ∧ Fr W (b :: (D ++ [pc.1])) W' ∧ RowAt (fun _ => ⟨b, 0, 0⟩) 0 wrongR W' ∧ RowAt (fun _ => pc) 0 (intR 4) W'
def GoQ (W : World) (b : Nat) (vb : Value) (t' : TS) (D : List Nat) (e : Exit) (a : Act) (W' : World) : Prop := e = .normal ∧ Fr W (b :: D) W' ∧ ∃ D', TkPre W' b vb t' D' ∧ ∀ x ∈ D', x ∈ D ∨ W.heap.size ≤ x
theorem no_fin {W w w' : World} {b : Nat} {pr pc : Blk} {D : List Nat} (hf : Fr W (b :: D) w) (hf2 : Fr w [b, pc.1] w') {ρ : Env} (he : ∀ r, r < 1000 → ρ r = envF b pr pc r) (hq : ∀ p ∈ [(0, wrongR), (2, intR 4)], RowAt ρ p.1 p.2 w') (a : Act) : NoQ W b pr pc D .ret a w' := by
  have e0 := he 0 (by decide)
  have e2 := he 2 (by decide)
  refine ⟨rfl, (hf.widen (fun x hx => ?_)).comp hf2 (fun x hx => .inl ?_), rdP_mv (hq _ (List.mem_cons_self ..)) e0.symm rfl rfl rfl, ?_⟩
  · rcases List.mem_cons.1 hx with rfl | h
    · exact List.mem_cons_self ..
    · exact List.mem_cons_of_mem _ (List.mem_append.2 (.inl h))
  · simp only [List.mem_cons, List.not_mem_nil, or_false] at hx
    rcases hx with rfl | rfl
    · exact List.mem_cons_self ..
    · exact List.mem_cons_of_mem _ (List.mem_append.2 (.inr (List.mem_singleton.2 rfl)))
  · have := hq _ (List.mem_cons_of_mem _ (List.mem_singleton.2 rfl))
    unfold RowAt at this ⊢
    rw [e2] at this
    exact this
set_option maxRecDepth 100000 in
/-- Not a text. -/
theorem body_false {L : Nat} {W : World} {b : Nat} {pr pc : Blk} {tx : List UInt8} {a : Act} (ha : ActF a b pr pc tx false) (ho : Own W b pr pc 0) {vb : Value} (hvb : vb.oneCell' = true) {t : TS} {D : List Nat} (h : TkPre W b vb t D) : KX Try.prog (some L) [.code bodyF] (NoQ W b pr pc D) a W := by
  obtain ⟨vn, vo, h1, hv, hd⟩ := h
  obtain ⟨hvn, hvo⟩ := trv_cells hv
  obtain ⟨g1, g2, g3⟩ := own_rows ho hvb hvn hvo h1
  have key : At Try.prog W ⟨[b, pc.1], envF b pr pc, []⟩ Try.f20.ntmps [] [.code bodyF] (NoQ W b pr pc D) (tmFd tx false) (rwF vb vn vo t.pl t.path) (some L) := At.finQ rfl [] trivial [.y] (rows2 := [(0, wrongR), (2, intR 4)]) (e := .ret) (ob := [true = true]) (by kernel_rfl) ⟨rfl, trivial⟩ fun a ρ w hko hf he hq => no_fin (Fr.refl _ _) hf he (fun p hp => (hq p hp).1) a
  exact key a W _ (act_den ha rfl g1 g2 g3 rfl)
set_option maxRecDepth 100000 in
theorem body_true {L : Nat} {W : World} {b : Nat} {pr pc : Blk} {tx : List UInt8} {a : Act} (ha : ActF a b pr pc tx true) (ho : Own W b pr pc 0) {vb : Value} (hvb : vb.oneCell' = true) {t : TS} {D : List Nat} (h : TkPre W b vb t D) (hg : Good t) (hlen : t.pl = 14 → tx.length ≤ 255) (hpr : pr.1 ∉ D) (hpc : pc.1 ∉ D) : KX Try.prog (some L) [.code bodyF] (match takeM t tx with
    | some t' => GoQ W b vb t' D
    | none => NoQ W b pr pc D) a W := by
  have h0 := h
  obtain ⟨vn, vo, h1, hv, hd⟩ := h
  obtain ⟨hvn, hvo⟩ := trv_cells hv
  obtain ⟨g1, g2, g3⟩ := own_rows ho hvb hvn hvo h1
  have den : Den W ⟨[], envF b pr pc, []⟩ (envF b pr pc) (mkSt Try.f20.ntmps (tmFd tx true) (rwF0 vb vn vo t.pl t.path) []) a W := by
    refine act_den ha rfl (fun q hq => ?_) (fun q hq r hr hqr hw => ?_) (fun q hq hw => ?_) rfl
    · simp only [List.mem_cons, List.not_mem_nil, or_false] at hq
      rcases hq with rfl | rfl | rfl
      · exact ⟨ro_row (g1 _ (List.mem_cons_self ..)).1, (g1 _ (List.mem_cons_self ..)).2⟩
      · exact g1 _ (by simp)
      · exact ⟨ro_row (g1 (2, intR 0) (by simp)).1, (g1 (2, intR 0) (by simp)).2⟩
    · simp only [List.mem_cons, List.not_mem_nil, or_false] at hq
      rcases hq with rfl | rfl | rfl <;> cases hw
    · simp only [List.mem_cons, List.not_mem_nil, or_false] at hq
      rcases hq with rfl | rfl | rfl <;> cases hw
  have hcall : ∀ (r : Option TS), takeM t tx = r → ∀ (ops : Array Oper) (tm1 : List (Nat × TV)) (w : World) (ρ : Env) (a : Act) (K : Act → World → Prop) (QQ : Exit → Act → World → Prop), Den W ⟨[], envF b pr pc, []⟩ ρ (mkSt Try.f20.ntmps tm1 (rwF0 vb vn vo t.pl t.path) []) a w → xCallG ops 7 (mkSt Try.f20.ntmps tm1 (rwF0 vb vn vo t.pl t.path) []) = some (31, 34, #[], #[], [.s (.lf (.ptr 0 1 0 0 0)), .v (stv tx)]) → (∀ w', TkQ w b vb D r (.returned (.bool r.isSome)) w' → K (a.put (some 31) (.bool r.isSome)) w') → wpOpIn (FW (some L)) 5 Try.prog ops QQ 7 K a w := by
    intro r ht ops tm1 w ρ a K QQ hden hy hk
    have e0 : ρ 0 = ⟨b, 0, 0⟩ := hden.e0 0 (.inl (by decide))
    refine xCallG_ok hy hden ent34 ?_
    rw [show #[] ++ (List.map (TV.val ρ) [.s (.lf (.ptr 0 1 0 0 0)), .v (stv tx)]).toArray ++ #[] = #[.pointer (some ⟨b, 1, none⟩), stv tx] by rw [show List.map (TV.val ρ) [.s (.lf (.ptr 0 1 0 0 0)), .v (stv tx)] = [.pointer (some ⟨b, 1, none⟩), stv tx] by rw [← ptT_val e0]; rfl]; rfl]
    refine (take_any w b vb hvb t hg D (h0.below hden.fr) tx hlen).mono ?_
    intro e w' hq
    rw [ht] at hq
    have := hq.bool
    subst this
    exact ⟨_, rfl, hk w' hq⟩
  cases ht : takeM t tx with
  | some t' =>
    refine (?_ : At Try.prog W ⟨[], envF b pr pc, []⟩ Try.f20.ntmps [] [.code bodyF] (GoQ W b vb t' D) (tmFd tx true) (rwF0 vb vn vo t.pl t.path) (some L)) a W _ den
    refine At.run rfl [] trivial [] (tm2 := tmFd tx true) (rows2 := rwF0 vb vn vo t.pl t.path) (ob := []) (td := rp Try.f20 8) (by kernel_rfl) trivial rfl rfl (by intro h; cases h) ?_
    refine At.opX (α := World) 7 31 [] trivial (fun x => x) (fun _ => nB) (fun _ => [(26, .v (.bool false)), (31, .v (.bool true))]) (fun _ => [(33, .v (.bool false))]) (fun _ => []) (fun _ => []) (fun x => GoQ W b vb t' D .normal a x) rfl (tm1 := [(26, .v (.bool false)), (29, .s (.lf (.ptr 0 1 0 0 0))), (30, .v (stv tx))]) (rows1 := rwF0 vb vn vo t.pl t.path) (o1 := []) (o2 := fun _ => []) (by kernel_rfl) trivial rfl ?_ (fun x _ => by kernel_rfl) (fun x _ => trivial) (fun x => rfl) (fun x hx => ?_)
    · intro a2 w ρ K QQ hden hk
      refine hcall (some t') ht _ _ w ρ a2 K QQ hden (by kernel_rfl) fun w' hq => ?_
      obtain ⟨_, D', q1, q2, q3⟩ := hq.before hden.fr
      refine hk w' (.bool true) w' (fun _ => ⟨0, 0, 0⟩) ⟨rfl, q2, D', q1, q3⟩ (den_again (d := 31) (tm' := [(26, .v (.bool false)), (31, .v (.bool true))]) (rows2 := []) (K := []) hden (by decide) (fun p hp => ?_) rfl (fun p hp => by cases hp) (fun p hp => by cases hp) rfl rfl)
      simp only [List.mem_cons, List.not_mem_nil, or_false] at hp
      rcases hp with rfl | rfl
      · exact .inr ⟨(show (26 : Nat) ≠ 31 by decide), rfl, fun r hr => by cases hr⟩
      · exact .inl ⟨rfl, rfl, rfl⟩
    · refine At.finQ rfl [] trivial [.n] (rows2 := []) (e := .normal) (ob := [false = false]) (by kernel_rfl) ⟨rfl, trivial⟩ fun a ρ w hko hf he hq => ?_
      obtain ⟨_, h2, D', h3, h4⟩ := hx
      exact ⟨rfl, h2.comp hf (fun x hx => by cases hx), D', h3.below hf, h4⟩
  | none =>
    refine (?_ : At Try.prog W ⟨[], envF b pr pc, []⟩ Try.f20.ntmps [] [.code bodyF] (NoQ W b pr pc D) (tmFd tx true) (rwF0 vb vn vo t.pl t.path) (some L)) a W _ den
    refine At.run rfl [] trivial [] (tm2 := tmFd tx true) (rows2 := rwF0 vb vn vo t.pl t.path) (ob := []) (td := rp Try.f20 8) (by kernel_rfl) trivial rfl rfl (by intro h; cases h) ?_
    refine At.opX (α := World × Value × Value × Nat × List UInt8) 7 31 [] trivial (fun x => x.1) (fun _ => ⟨[b, pc.1], envF b pr pc, []⟩) (fun _ => [(2, ptrTo 1), (4, ptrTo 2), (26, .v (.bool false)), (31, .v (.bool false))]) (fun _ => [(2, ptrTo 1), (4, ptrTo 2), (33, .v (.bool true))]) (fun x => rwF vb x.2.1 x.2.2.1 x.2.2.2.1 x.2.2.2.2) (fun x => rwF vb x.2.1 x.2.2.1 x.2.2.2.1 x.2.2.2.2) (fun x => Fr W (b :: D) x.1) rfl (tm1 := [(2, ptrTo 1), (4, ptrTo 2), (26, .v (.bool false)), (29, .s (.lf (.ptr 0 1 0 0 0))), (30, .v (stv tx))]) (rows1 := rwF0 vb vn vo t.pl t.path) (o1 := []) (o2 := fun _ => []) (by kernel_rfl) trivial rfl ?_ (fun x _ => by kernel_rfl) (fun x _ => trivial) (fun x => rfl) (fun x hx => ?_)
    · intro a2 w ρ K QQ hden hk
      refine hcall none ht _ _ w ρ a2 K QQ hden (by kernel_rfl) fun w' hq => ?_
      have e1 : ρ 1 = pr := hden.e0 1 (.inl (by decide))
      have e2 : ρ 2 = pc := hden.e0 2 (.inl (by decide))
      obtain ⟨_, q2, vn2, vo2, pl2, pa2, q3, q4, q5⟩ := hq.before hden.fr
      have ho2 : Own w' b pr pc 0 := ⟨rowAt_fr ho.r q2 (fun hm => by rcases List.mem_cons.1 hm with h | h; exact ho.n1 h.symm; exact hpr h), rowAt_fr ho.c q2 (fun hm => by rcases List.mem_cons.1 hm with h | h; exact ho.n2 h.symm; exact hpc h), ho.n1, ho.n2, ho.n3⟩
      obtain ⟨k1, k2, k3⟩ := own_rows ho2 hvb q3 q4 q5
      have hd2 := den_again (d := 31) (v := .bool false) (σ := envF b pr pc) (tm' := [(2, ptrTo 1), (4, ptrTo 2), (26, .v (.bool false)), (31, .v (.bool false))]) (rows2 := rwF vb vn2 vo2 pl2 pa2) (K := []) hden (by decide) (fun p hp => ?_) rfl k1 k2 rfl rfl
      · exact hk (w', vn2, vo2, pl2, pa2) (.bool false) w' (envF b pr pc) q2 hd2
      · simp only [List.mem_cons, List.not_mem_nil, or_false] at hp
        rcases hp with rfl | rfl | rfl | rfl
        · exact .inr ⟨(show (2 : Nat) ≠ 31 by decide), rfl, fun r hr => by obtain rfl := List.mem_singleton.1 hr; exact e1.symm⟩
        · exact .inr ⟨(show (4 : Nat) ≠ 31 by decide), rfl, fun r hr => by obtain rfl := List.mem_singleton.1 hr; exact e2.symm⟩
        · exact .inr ⟨(show (26 : Nat) ≠ 31 by decide), rfl, fun r hr => by cases hr⟩
        · exact .inl ⟨rfl, rfl, rfl⟩
    · exact At.finQ rfl [] trivial [.y] (rows2 := [(0, wrongR), (2, intR 4)]) (e := .ret) (ob := [true = true]) (by kernel_rfl) ⟨rfl, trivial⟩ fun a ρ w hko hf he hq => no_fin hx hf he (fun p hp => (hq p hp).1) a
end
end Go.Proofs.Ytglipljilcdboaa
/- Of the program: the iterator over texts made. No condition. -/
namespace Go.Proofs.Ytglipljilcdboaa
open Go.RowKit Go.Shelf
set_option linter.unusedVariables false
set_option linter.unusedSimpArgs false
section
open E
theorem row_new1 (w : World) (v : Value) (ty : TypeId) : RowAt (fun _ => ⟨w.heap.size, 0, 0⟩) 0 ⟨[.one (.v v)], false, none⟩ (w.alloc (.cells #[v] ty)) := by
  refine ⟨by show w.heap.size < (w.alloc _).heap.size; rw [World.size_alloc]; omega, fun j x hx => ⟨?_, fun h => by cases h⟩, (fun e k h => by cases h), ⟨#[v], ty, _, Go.heap_alloc_new w _⟩⟩
  have hx2 : [v][j]? = some x := hx
  match j, hx2 with
  | 0, h => cases h; exact cell_alloc_new
  | j + 1, h => cases h
theorem fr_alloc (w : World) (o : Obj) : Fr w [] (w.alloc o) := Fr.of_below ((Below.refl _ w).alloc (Nat.le_refl _) o) _
attribute [local go_sem] Oper.semAt_some
theorem mk_in (n : Nat) (q : Addr) (s : ByteArray) (f : Fn) (fi ca : Array Value) (w : World) :
    CallsIn Fence.wide n Try.prog 32 #[.pointer (some q), .string s, .func f fi ca] w fun e w' => e = .returned (.func (.func 46) #[] #[.pointer (some ⟨w.heap.size + 1, 0, none⟩), .pointer (some ⟨w.heap.size + 1 + 1, 0, none⟩), .pointer (some ⟨w.heap.size, 0, none⟩)]) ∧ ((w.alloc (.cells #[.pointer (some q)] 87)).alloc (.cells #[.string s] 9)).alloc (.cells #[.func f fi ca] 78) = w' := by
  refine callsIn_of_wp Try.func32 rfl trivial ?_ rfl
  simp only [Try.ntmps32, List.size_toArray, List.length_cons, List.length_nil, Nat.reduceAdd, Nat.reduceSub, Array.replicate_succ, Array.replicate_zero, List.push_toArray, List.append_toArray, List.nil_append, List.cons_append]
  gi_wp2
  go_ret
  exact ⟨rfl, rfl⟩
theorem ent32 : Enters Try.prog 32 := enters_of Try.func32 (by kernel_rfl) rfl
/-- The iterator made, with its boxes. -/
theorem mk_any (b : Nat) (s : List UInt8) (w : World) : Calls Try.prog 32 #[.pointer (some ⟨b, 0, none⟩), stv s, mfv b] w fun e w' => ∃ p1 p2 p3, e = .returned (.func (.func 46) #[] #[.pointer (some ⟨p1, 0, none⟩), .pointer (some ⟨p2, 0, none⟩), .pointer (some ⟨p3, 0, none⟩)]) ∧ Fr w [] w' ∧ w.heap.size ≤ p1 ∧ w.heap.size ≤ p2 ∧ w.heap.size ≤ p3 ∧
    RowAt (fun _ => ⟨p1, 0, 0⟩) 0 ⟨[.one (.v (stv s))], false, none⟩ w' ∧ RowAt (fun _ => ⟨p2, 0, 0⟩) 0 ⟨[.one (.v (mfv b))], false, none⟩ w' ∧ RowAt (fun _ => ⟨p3, 0, 0⟩) 0 ⟨[.one (.v (.pointer (some ⟨b, 0, none⟩)))], false, none⟩ w' := by
  refine ((callsIn_wide (n := 6)).1 (mk_in 6 ⟨b, 0, none⟩ ⟨s.toArray⟩ (.func 33) #[.pointer (some ⟨b, 1, none⟩)] #[] w)).mono ?_
  rintro e w' ⟨rfl, rfl⟩
  have f1 := fr_alloc w (.cells #[.pointer (some ⟨b, 0, none⟩)] 87)
  have f2 := fr_alloc (w.alloc (.cells #[.pointer (some ⟨b, 0, none⟩)] 87)) (.cells #[stv s] 9)
  have f3 := fr_alloc ((w.alloc (.cells #[.pointer (some ⟨b, 0, none⟩)] 87)).alloc (.cells #[stv s] 9)) (.cells #[mfv b] 78)
  have r3 := row_new1 w (.pointer (some ⟨b, 0, none⟩)) 87
  have r1 := row_new1 (w.alloc (.cells #[.pointer (some ⟨b, 0, none⟩)] 87)) (stv s) 9
  have r2 := row_new1 ((w.alloc (.cells #[.pointer (some ⟨b, 0, none⟩)] 87)).alloc (.cells #[stv s] 9)) (mfv b) 78
  rw [World.size_alloc] at r1 r2
  rw [World.size_alloc] at r2
  exact ⟨w.heap.size + 1, w.heap.size + 1 + 1, w.heap.size, rfl, (f1.comp f2 (fun x hx => by cases hx)).comp f3 (fun x hx => by cases hx), by omega, by omega, Nat.le_refl _, rowAt_fr r1 f3 (by simp), r2, rowAt_fr (rowAt_fr r3 f2 (by simp)) f3 (by simp)⟩
end
end Go.Proofs.Ytglipljilcdboaa
/- Of the program: a round of feeding, as the iterator asks for it. Its conditions: what a tree keeps. -/
namespace Go.Proofs.Ytglipljilcdboaa
open Go.RowKit Go.Shelf
set_option linter.unusedVariables false
set_option linter.unusedSimpArgs false
section
open E
noncomputable abbrev asgF : Code := hdAsg (rg Try.f20 0)
theorem asgF_ok : asg asgF = some [(5, .tmp 22), (6, .tmp 23)] := by kernel_rfl
theorem fr_put (w : World) (l : Nat) (o : Obj) : Fr w [l] (w.putObj l o) := by
  have h := grownBy_putObj' w l o
  exact ⟨h.os, h.tape, h.output, h.size, fun k hk hn => World.putObj_heap_other (fun e => hn (by rw [e]; simp))⟩
theorem TkPre.fr {W W' : World} {b : Nat} {vb : Value} {t : TS} {D S : List Nat} (h : TkPre W b vb t D) (hf : Fr W S W') (hd : ∀ x ∈ b :: D, x ∉ S) : TkPre W' b vb t D := by
  obtain ⟨vn, vo, h1, h2, h3⟩ := h
  exact ⟨vn, vo, rowAt_fr h1 hf (hd b (List.mem_cons_self ..)), h2.fr hf fun x hx => hd x (List.mem_cons_of_mem _ hx), h3⟩
theorem Own.fr {W W' : World} {b : Nat} {pr pc : Blk} {x : Int} {S : List Nat} (h : Own W b pr pc x) (hf : Fr W S W') (h1 : pr.1 ∉ S) (h2 : pc.1 ∉ S) : Own W' b pr pc x := ⟨rowAt_fr h.r hf h1, rowAt_fr h.c hf h2, h.n1, h.n2, h.n3⟩
/-- The loop's record. -/
noncomputable def recF (fn : FuncId) (a : Act) (n : Nat) (st : LoopState) (pe : Option Code) : Loop := { state := st, pending := pe, fn := fn, tmps := a.tmps, params := #[22, 23], assign := asgF, body := bodyF, defers := n }
def JF (b : Nat) (pr pc : Blk) (n : Nat) (rc : Loop) (W : World) : Prop := W.heap[n + 1]? = some (.loop rc) ∧ W.heap[n]? = some (.deferred (some [])) ∧ Own W b pr pc 0
def JxF (b : Nat) (pr pc : Blk) (n : Nat) (rc : Loop) (W : World) : Prop := W.heap[n + 1]? = some (.loop rc) ∧ W.heap[n]? = some (.deferred (some [])) ∧ RowAt (fun _ => ⟨b, 0, 0⟩) 0 wrongR W ∧ RowAt (fun _ => pc) 0 (intR 4) W
theorem act_round {a : Act} {b : Nat} {pr pc : Blk} (hsz : a.tmps.size = Try.f20.ntmps) (h2 : a.tmps[2]? = some ((ptrTo 1).val (envF b pr pc))) (h4 : a.tmps[4]? = some ((ptrTo 2).val (envF b pr pc))) (s : List UInt8) (ok : Bool) :
    ActF (asgA [(5, .tmp 22), (6, .tmp 23)] { tmps := ((#[22, 23] : Array Tmp).zip #[stv s, .bool ok]).foldl (fun t (p, v) => t.setIfInBounds p v) a.tmps, defers := [] }) b pr pc s ok := by
  have hn : Try.f20.ntmps = 37 := rfl
  have e : ((#[22, 23] : Array Tmp).zip #[stv s, .bool ok]).foldl (fun t (p, v) => t.setIfInBounds p v) a.tmps = (a.tmps.setIfInBounds 22 (stv s)).setIfInBounds 23 (.bool ok) := by
    rw [← Array.foldl_toList, Array.toList_zip]
    rfl
  rw [e]
  have g22 : ((a.tmps.setIfInBounds 22 (stv s)).setIfInBounds 23 (.bool ok))[22]? = some (stv s) := by
    rw [Array.getElem?_setIfInBounds, if_neg (by decide), Array.getElem?_setIfInBounds, if_pos rfl]; simp [hsz, hn]
  have g23 : ((a.tmps.setIfInBounds 22 (stv s)).setIfInBounds 23 (.bool ok))[23]? = some (.bool ok) := by
    rw [Array.getElem?_setIfInBounds, if_pos rfl]; simp [hsz, hn]
  obtain ⟨T, hT⟩ : ∃ T, T = (a.tmps.setIfInBounds 22 (stv s)).setIfInBounds 23 (.bool ok) := ⟨_, rfl⟩
  have hTs : T.size = 37 := by rw [hT]; simp [hsz, hn]
  have g2 : T[2]? = some ((ptrTo 1).val (envF b pr pc)) := by rw [hT, Array.getElem?_setIfInBounds, if_neg (by decide), Array.getElem?_setIfInBounds, if_neg (by decide)]; exact h2
  have g4 : T[4]? = some ((ptrTo 2).val (envF b pr pc)) := by rw [hT, Array.getElem?_setIfInBounds, if_neg (by decide), Array.getElem?_setIfInBounds, if_neg (by decide)]; exact h4
  rw [← hT] at g22 g23 ⊢
  have e2 : asgA [(5, .tmp 22), (6, .tmp 23)] { tmps := T, defers := [] } = { tmps := (T.setIfInBounds 5 (stv s)).setIfInBounds 6 (.bool ok), defers := [] } := by
    show (Act.mk ((T.setIfInBounds 5 (T.getD 22 undef)).setIfInBounds 6 ((T.setIfInBounds 5 (T.getD 22 undef)).getD 23 undef)) []) = _
    have q1 : T.getD 22 undef = stv s := by rw [Array.getD_eq_getD_getElem?, g22]; rfl
    rw [q1]
    have q2 : (T.setIfInBounds 5 (stv s)).getD 23 undef = .bool ok := by rw [Array.getD_eq_getD_getElem?, Array.getElem?_setIfInBounds, if_neg (by decide), g23]; rfl
    rw [q2]
  rw [e2]
  refine ⟨by simp [hTs, hn], rfl, ?_, ?_, ?_, ?_⟩
  · show ((T.setIfInBounds 5 (stv s)).setIfInBounds 6 (.bool ok))[2]? = _
    rw [Array.getElem?_setIfInBounds, if_neg (by decide), Array.getElem?_setIfInBounds, if_neg (by decide)]; exact g2
  · show ((T.setIfInBounds 5 (stv s)).setIfInBounds 6 (.bool ok))[4]? = _
    rw [Array.getElem?_setIfInBounds, if_neg (by decide), Array.getElem?_setIfInBounds, if_neg (by decide)]; exact g4
  · show ((T.setIfInBounds 5 (stv s)).setIfInBounds 6 (.bool ok))[5]? = _
    rw [Array.getElem?_setIfInBounds, if_neg (by decide), Array.getElem?_setIfInBounds, if_pos rfl]; simp [hTs]
  · show ((T.setIfInBounds 5 (stv s)).setIfInBounds 6 (.bool ok))[6]? = _
    rw [Array.getElem?_setIfInBounds, if_pos rfl]; simp [hTs]
/-- A round asked for: it begins, its code runs, it ends. -/
theorem round_ask {fn : FuncId} {a : Act} {b n : Nat} {pr pc : Blk} {W : World} {s : List UInt8} {ok : Bool} {R : Ending → World → Prop} (hJ : W.heap[n + 1]? = some (.loop (recF fn a n .ready none))) (Q : Exit → Act → World → Prop)
    (hb : ∀ a1, ActF a1 b pr pc s ok → KX Try.prog (some (n + 1)) [.code bodyF] Q a1 (W.putObj (n + 1) (.loop (recF fn a n .busy none)))) (hsz : a.tmps.size = Try.f20.ntmps) (h2 : a.tmps[2]? = some ((ptrTo 1).val (envF b pr pc))) (h4 : a.tmps[4]? = some ((ptrTo 2).val (envF b pr pc)))
    (hQ : ∀ e a1 W2, Q e a1 W2 → roundPost Try.prog (n + 1) R e a1 W2) : YieldAt (FW none) 4 Try.prog (n + 1) #[stv s, .bool ok] W R := by
  have hy := run_yield (P := Try.prog) (args := #[stv s, .bool ok]) hJ rfl
  refine ⟨fn, _, asgF, bodyF, hy, roundIn_of_wpIn trivial (asg_ok asgF_ok ?_)⟩
  refine ⟨_, run_beginRound hJ rfl, ?_⟩
  exact wpIn_mono ((hb _ (act_round hsz h2 h4 s ok)).wpIn (n := 4)) hQ
theorem ctx_ok {fn : FuncId} {a : Act} {b n : Nat} {pr pc : Blk} (hsz : a.tmps.size = Try.f20.ntmps) (h2 : a.tmps[2]? = some ((ptrTo 1).val (envF b pr pc))) (h4 : a.tmps[4]? = some ((ptrTo 2).val (envF b pr pc))) : YCtx b (n + 1) [n + 1, n, pr.1, pc.1] (JF b pr pc n (recF fn a n .ready none)) (JxF b pr pc n (recF fn a n .done (some .ret))) := by
  have hlt : ∀ {W : World} {k : Nat} {o : Obj}, W.heap[k]? = some o → k < W.heap.size := fun h => (Array.getElem?_eq_some_iff.1 h).1
  have put : ∀ {W : World} {st : LoopState} {pe : Option Code} {D : List Nat} {vb : Value} {t : TS}, TkPre W b vb t D → (∀ x ∈ b :: D, x ∉ [n + 1, n, pr.1, pc.1]) → TkPre (W.putObj (n + 1) (.loop (recF fn a n st pe))) b vb t D := fun h hd => h.fr (fr_put _ _ _) fun x hx hm => hd x hx (by simp at hm; simp [hm])
  refine ⟨fun W ⟨j1, j2, j3⟩ x hx => ?_, fun W W' S ⟨j1, j2, j3⟩ hf hS => ?_, fun W W' ⟨j1, j2, j3, j4⟩ hf => ?_, fun W t D vb s t' hvb hg hlen ⟨j1, j2, j3⟩ hp hk ht => ?_, fun W t D vb s ok hvb hg ⟨j1, j2, j3⟩ hp hk hok => ?_⟩
  · simp only [List.mem_cons, List.not_mem_nil, or_false] at hx
    rcases hx with rfl | rfl | rfl | rfl
    · exact hlt j1
    · exact hlt j2
    · exact j3.r.1
    · exact j3.c.1
  · exact ⟨(hf.block _ (hlt j1) fun h => hS _ h (by simp)).trans j1, (hf.block _ (hlt j2) fun h => hS _ h (by simp)).trans j2, j3.fr hf (fun h => hS _ h (by simp)) (fun h => hS _ h (by simp))⟩
  · exact ⟨(hf.block _ (hlt j1) (by simp)).trans j1, (hf.block _ (hlt j2) (by simp)).trans j2, rowAt_fr j3 hf (by simp), rowAt_fr j4 hf (by simp)⟩
  · have n1 : n + 1 ∉ b :: D := fun h => hk _ h (by simp)
    have n2 : n ∉ b :: D := fun h => hk _ h (by simp)
    have n3 : pr.1 ∉ b :: D := fun h => hk _ h (by simp)
    have n4 : pc.1 ∉ b :: D := fun h => hk _ h (by simp)
    have hpr1 : pr.1 ≠ n + 1 := fun e => by
      obtain ⟨cur, ty, fz, hc⟩ := j3.r.2.2.2
      simp only at hc
      rw [e, j1] at hc; cases hc
    have hpc1 : pc.1 ≠ n + 1 := fun e => by
      obtain ⟨cur, ty, fz, hc⟩ := j3.c.2.2.2
      simp only at hc
      rw [e, j1] at hc; cases hc
    have hpr2 : pr.1 ≠ n := fun e => by
      obtain ⟨cur, ty, fz, hc⟩ := j3.r.2.2.2
      simp only at hc
      rw [e, j2] at hc; cases hc
    have hpc2 : pc.1 ≠ n := fun e => by
      obtain ⟨cur, ty, fz, hc⟩ := j3.c.2.2.2
      simp only at hc
      rw [e, j2] at hc; cases hc
    have f1 := fr_put W (n + 1) (.loop (recF fn a n .busy none))
    have ho := j3.fr f1 (by simpa using hpr1) (by simpa using hpc1)
    have hl2 : (W.putObj (n + 1) (.loop (recF fn a n .busy none))).heap[n + 1]? = some (.loop (recF fn a n .busy none)) := World.putObj_heap_same (hlt j1)
    have hk2 : (W.putObj (n + 1) (.loop (recF fn a n .busy none))).heap[n]? = some (.deferred (some [])) := (World.putObj_heap_other (by omega)).trans j2
    refine round_ask j1 (GoQ (W.putObj (n + 1) (.loop (recF fn a n .busy none))) b vb t' D) (fun a1 ha => by
      have := body_true (L := n + 1) ha ho hvb (put hp hk) hg hlen (fun h => n3 (List.mem_cons_of_mem _ h)) (fun h => n4 (List.mem_cons_of_mem _ h))
      rw [ht] at this
      exact this) hsz h2 h4 fun e a1 W2 hq => ?_
    obtain ⟨rfl, hf, D', q1, q2⟩ := hq
    have l2 := (hf.block _ (hlt hl2) n1).trans hl2
    have k2 := (hf.block _ (hlt hk2) n2).trans hk2
    have f2 := fr_put W2 (n + 1) (.loop (recF fn a n .ready none))
    have hDn : ∀ x ∈ b :: D', x ∉ [n + 1] := fun x hx hm => by
      obtain rfl := List.mem_singleton.1 hm
      rcases List.mem_cons.1 hx with h | h
      · exact n1 (h ▸ List.mem_cons_self ..)
      · rcases q2 _ h with h3 | h3
        · exact n1 (List.mem_cons_of_mem _ h3)
        · have := hlt hl2; omega
    refine ⟨_, _, run_endRound none l2, rfl, ⟨World.putObj_heap_same (hlt l2), (World.putObj_heap_other (by omega)).trans k2, (ho.fr hf n3 n4).fr f2 (by simpa using hpr1) (by simpa using hpc1)⟩, D', q1.fr f2 hDn, ?_, fun x hx => ?_⟩
    · refine ((f1.widen (fun x hx => ?_)).comp hf fun x hx => .inl (List.mem_append.2 (.inl hx))).comp f2 fun x hx => .inl ?_
      · obtain rfl := List.mem_singleton.1 hx; simp
      · obtain rfl := List.mem_singleton.1 hx; simp
    · rcases q2 x hx with h | h
      · exact .inl h
      · exact .inr (Nat.le_trans f1.size h)
  · have n1 : n + 1 ∉ b :: D := fun h => hk _ h (by simp)
    have n2 : n ∉ b :: D := fun h => hk _ h (by simp)
    have n3 : pr.1 ∉ b :: D := fun h => hk _ h (by simp)
    have n4 : pc.1 ∉ b :: D := fun h => hk _ h (by simp)
    have hpr1 : pr.1 ≠ n + 1 := fun e => by
      obtain ⟨cur, ty, fz, hc⟩ := j3.r.2.2.2
      simp only at hc
      rw [e, j1] at hc; cases hc
    have hpc1 : pc.1 ≠ n + 1 := fun e => by
      obtain ⟨cur, ty, fz, hc⟩ := j3.c.2.2.2
      simp only at hc
      rw [e, j1] at hc; cases hc
    have hpc2 : pc.1 ≠ n := fun e => by
      obtain ⟨cur, ty, fz, hc⟩ := j3.c.2.2.2
      simp only at hc
      rw [e, j2] at hc; cases hc
    have f1 := fr_put W (n + 1) (.loop (recF fn a n .busy none))
    have ho := j3.fr f1 (by simpa using hpr1) (by simpa using hpc1)
    have hl2 : (W.putObj (n + 1) (.loop (recF fn a n .busy none))).heap[n + 1]? = some (.loop (recF fn a n .busy none)) := World.putObj_heap_same (hlt j1)
    have hk2 : (W.putObj (n + 1) (.loop (recF fn a n .busy none))).heap[n]? = some (.deferred (some [])) := (World.putObj_heap_other (by omega)).trans j2
    refine round_ask j1 (NoQ (W.putObj (n + 1) (.loop (recF fn a n .busy none))) b pr pc D) (fun a1 ha => by
      cases ok with
      | false => exact body_false (L := n + 1) ha ho hvb (put hp hk)
      | true =>
        have := body_true (L := n + 1) ha ho hvb (put hp hk) hg (hok rfl).1 (fun h => n3 (List.mem_cons_of_mem _ h)) (fun h => n4 (List.mem_cons_of_mem _ h))
        rw [(hok rfl).2] at this
        exact this) hsz h2 h4 fun e a1 W2 hq => ?_
    obtain ⟨rfl, hf, q1, q2⟩ := hq
    have hDp : ∀ y, y ≠ pc.1 → y ∉ b :: D → y ∉ b :: (D ++ [pc.1]) := fun y h1 h2 hm => by
      rcases List.mem_cons.1 hm with h | h
      · exact h2 (h ▸ List.mem_cons_self ..)
      · rcases List.mem_append.1 h with h | h
        · exact h2 (List.mem_cons_of_mem _ h)
        · exact h1 (List.mem_singleton.1 h)
    have l2 := (hf.block _ (hlt hl2) (hDp _ (Ne.symm hpc1) n1)).trans hl2
    have k2 := (hf.block _ (hlt hk2) (hDp _ (Ne.symm hpc2) n2)).trans hk2
    have f2 := fr_put W2 (n + 1) (.loop (recF fn a n .done (some .ret)))
    have hbn : b ∉ [n + 1] := fun h => n1 (by rw [List.mem_singleton.1 h]; simp)
    refine ⟨_, _, run_endRound (some .ret) l2, rfl, ⟨World.putObj_heap_same (hlt l2), (World.putObj_heap_other (by omega)).trans k2, rowAt_fr q1 f2 hbn, rowAt_fr q2 f2 (by simpa using hpc1)⟩, ?_⟩
    refine ((f1.widen (fun x hx => ?_)).comp hf fun x hx => .inl ?_).comp f2 fun x hx => .inl ?_
    · obtain rfl := List.mem_singleton.1 hx; simp
    · rcases List.mem_cons.1 hx with rfl | h
      · simp
      · rcases List.mem_append.1 h with h | h
        · exact List.mem_append.2 (.inl (List.mem_cons_of_mem _ h))
        · obtain rfl := List.mem_singleton.1 h; simp
    · obtain rfl := List.mem_singleton.1 hx; simp
end
end Go.Proofs.Ytglipljilcdboaa
/- Of the program: feeding, where it ranges over the texts. Its conditions: what a tree keeps, what is begun. -/
namespace Go.Proofs.Ytglipljilcdboaa
open Go.RowKit Go.Shelf
set_option linter.unusedVariables false
set_option linter.unusedSimpArgs false
section
open E
theorem RdAt.fr {W W' : World} {b : Nat} {t : TS} {bs : List UInt8} {D S : List Nat} (h : RdAt W b t bs D) (hf : Fr W S W') (hd : ∀ x ∈ b :: D, x ∉ S) : RdAt W' b t bs D := by
  obtain ⟨vb, E, D', rfl, h1, h2, h3⟩ := h
  refine ⟨vb, E, D', rfl, h1.fr hf fun x hx => hd x (List.mem_cons_of_mem _ (List.mem_append.2 (.inl hx))), h2.fr hf fun x hx => ?_, h3⟩
  rcases List.mem_cons.1 hx with rfl | h
  · exact hd _ (List.mem_cons_self ..)
  · exact hd x (List.mem_cons_of_mem _ (List.mem_append.2 (.inr h)))
theorem RdAt.lt {W : World} {b : Nat} {t : TS} {bs : List UInt8} {D : List Nat} (h : RdAt W b t bs D) : ∀ x ∈ b :: D, x < W.heap.size := by
  obtain ⟨vb, E, D', rfl, h1, ⟨vn, vo, h2, h4, _⟩, h3⟩ := h
  intro x hx
  rcases List.mem_cons.1 hx with rfl | h
  · exact h2.1
  · rcases List.mem_append.1 h with h | h
    · exact h1.lt x h
    · exact h4.lt x h
abbrev cloV (p1 p2 p3 : Nat) : Value := .func (.func 46) #[] #[.pointer (some ⟨p1, 0, none⟩), .pointer (some ⟨p2, 0, none⟩), .pointer (some ⟨p3, 0, none⟩)]
/-- Ahead of the range. -/
structure RgPre (a : Act) (W : World) (b : Nat) (pr pc : Blk) (t : TS) (bs s : List UInt8) (D0 : List Nat) (p1 p2 p3 : Nat) : Prop where
  sz : a.tmps.size = Try.f20.ntmps
  df : a.defers = []
  t2 : a.tmps[2]? = some ((ptrTo 1).val (envF b pr pc))
  t4 : a.tmps[4]? = some ((ptrTo 2).val (envF b pr pc))
  t21 : a.tmps[21]? = some (cloV p1 p2 p3)
  rd : RdAt W b t bs D0
  ow : Own W b pr pc 0
  r1 : RowAt (fun _ => ⟨p1, 0, 0⟩) 0 ⟨[.one (.v (stv s))], false, none⟩ W
  r2 : RowAt (fun _ => ⟨p2, 0, 0⟩) 0 ⟨[.one (.v (mfv b))], false, none⟩ W
  r3 : RowAt (fun _ => ⟨p3, 0, 0⟩) 0 ⟨[.one (.v (.pointer (some ⟨b, 0, none⟩)))], false, none⟩ W
  n1 : p1 ∉ b :: D0
  n2 : p2 ∉ b :: (D0 ++ [pr.1, pc.1])
  n3 : p3 ∉ b :: (D0 ++ [pr.1, pc.1])
  k1 : pr.1 ∉ b :: D0
  k2 : pc.1 ∉ b :: D0
theorem range_any {a : Act} {W : World} {b : Nat} {pr pc : Blk} {t : TS} {bs s : List UInt8} {D0 : List Nat} {p1 p2 p3 : Nat} (h : RgPre a W b pr pc t bs s D0 p1 p2 p3) (hg : Good t) (hst : Stuck t bs) (hlen : bs.length + s.length ≤ 100000000000) {k : List Item} {Q : Exit → Act → World → Prop}
    (hdone : ∀ t' bs' D' W' a', runM t (bs ++ s) = some (t', bs') → a'.tmps = a.tmps → a'.defers = [markD W.heap.size] → Good t' → RdAt W' b t' bs' D' → Own W' b pr pc 0 → Fr W (b :: (D0 ++ [pr.1, pc.1])) W' → (∀ y ∈ D', (y ∈ D0 ∨ W.heap.size ≤ y) ∧ y ∉ [W.heap.size + 1, W.heap.size, pr.1, pc.1]) → W'.heap[W.heap.size]? = some (.deferred (some [])) → KX Try.prog none k Q a' W')
    (hstop : ∀ W' a', runM t (bs ++ s) = none → a'.tmps = a.tmps → a'.defers = [markD W.heap.size] → RowAt (fun _ => ⟨b, 0, 0⟩) 0 wrongR W' → RowAt (fun _ => pc) 0 (intR 4) W' → Fr W (b :: (D0 ++ [pr.1, pc.1])) W' → W'.heap[W.heap.size]? = some (.deferred (some [])) → Q .ret a' W') :
    KX Try.prog none (.code (.rangeFunc (.tmp 21) #[22, 23] asgF bodyF) :: k) Q a W := by
  refine KX.codeR (n := 6) (wpIn_rangeFunc ?_)
  intro fn hfn
  have hev : a.eval (.tmp 21) = cloV p1 p2 p3 := by
    show a.tmps.getD 21 undef = _
    rw [Array.getD_eq_getD_getElem?, h.t21]; rfl
  obtain ⟨W1, hW1⟩ : ∃ W1, (W.alloc (.deferred (some []))).alloc (.loop (recF fn a W.heap.size .ready none)) = W1 := ⟨_, rfl⟩
  have hsz1 : W1.heap.size = W.heap.size + 2 := by rw [← hW1]; simp
  have hL1 : W1.heap[W.heap.size + 1]? = some (.loop (recF fn a W.heap.size .ready none)) := by
    rw [← hW1]; have := World.alloc_heap_new (W.alloc (.deferred (some []))) (.loop (recF fn a W.heap.size .ready none)); rwa [World.size_alloc] at this
  have hK1 : W1.heap[W.heap.size]? = some (.deferred (some [])) := by
    rw [← hW1]; exact (Below.heap_alloc _ _ _ (by simp)).trans (World.alloc_heap_new W _)
  have f1 : Fr W [] W1 := by rw [← hW1]; exact (fr_alloc W _).comp (fr_alloc _ _) (fun x hx => by cases hx)
  have hlt := h.rd.lt
  have hnil : ∀ {l : List Nat} (x : Nat), x ∈ l → x ∉ ([] : List Nat) := fun x _ hx => by cases hx
  have ho1 := h.ow.fr f1 (by simp) (by simp)
  have hJ : JF b pr pc W.heap.size (recF fn a W.heap.size .ready none) W1 := ⟨hL1, hK1, ho1⟩
  have hk : ∀ y ∈ b :: D0, y ∉ [W.heap.size + 1, W.heap.size, pr.1, pc.1] := fun y hy hm => by
    have := hlt y hy
    simp only [List.mem_cons, List.not_mem_nil, or_false] at hm
    rcases hm with rfl | rfl | rfl | rfl
    · omega
    · omega
    · exact h.k1 hy
    · exact h.k2 hy
  have hpn : ∀ p, p < W.heap.size → p ∉ b :: (D0 ++ [pr.1, pc.1]) → p ∉ b :: (D0 ++ [W.heap.size + 1, W.heap.size, pr.1, pc.1]) := fun p hp hn hm => by
    simp only [List.mem_cons, List.mem_append, List.not_mem_nil, or_false, not_or] at hn hm
    rcases hm with h | h | h | h | h | h
    · exact hn.1 h
    · exact hn.2.1 h
    · omega
    · omega
    · exact hn.2.2.1 h
    · exact hn.2.2.2 h
  have hbx : BxT W1 b p2 p3 D0 [W.heap.size + 1, W.heap.size, pr.1, pc.1] := ⟨rowAt_fr h.r2 f1 (by simp), rowAt_fr h.r3 f1 (by simp), hpn _ h.r2.1 h.n2, hpn _ h.r3.1 h.n3⟩
  have main := texts_any (ctx_ok (fn := fn) (n := W.heap.size) h.sz h.t2 h.t4) t bs s [] hg hst hlen (h.rd.fr f1 hnil) hJ hk hbx (rowAt_fr h.r1 f1 (by simp)) h.n1
  refine ⟨W.heap.size + 1, [{ target := .collected W.heap.size, args := #[] }], W1, { target := .fn (.func 46) #[.pointer (some ⟨p1, 0, none⟩), .pointer (some ⟨p2, 0, none⟩), .pointer (some ⟨p3, 0, none⟩)], args := #[yv (W.heap.size + 1)] }, W1, 46, #[yv (W.heap.size + 1), .pointer (some ⟨p1, 0, none⟩), .pointer (some ⟨p2, 0, none⟩), .pointer (some ⟨p3, 0, none⟩)], W1, ?_, ?_, ?_, ?_, fun h => (by cases h), ?_⟩
  · rw [← hW1]; exact run_enterLoop_outer _ _ _ _ _
  · simp only [resolve, rangeCall, hev]
    simp [go_sem]
  · intro f' _; trivial
  · simp [invoke, go_sem]
  refine callsIn_FW (main.mono ?_)
  rintro e W3 ⟨⟨v, rfl⟩, hf, hm⟩
  have f3 : ∀ o, Fr W (b :: (D0 ++ [pr.1, pc.1])) (W3.putObj (W.heap.size + 1) o) := fun o => ((f1.widen (fun x hx => by cases hx)).comp hf (fun x hx => by
    simp only [List.mem_cons, List.mem_append, List.not_mem_nil, or_false] at hx ⊢
    rcases hx with h | h | h | h | h | h
    · exact .inl (.inl h)
    · exact .inl (.inr (.inl h))
    · exact .inr (by omega)
    · exact .inr (by omega)
    · exact .inl (.inr (.inr (.inl h)))
    · exact .inl (.inr (.inr (.inr h))))).comp (fr_put _ _ _) (fun x hx => by obtain rfl := List.mem_singleton.1 hx; exact .inr (by omega))
  have nD : ∀ {o : Obj}, W3.heap[W.heap.size]? = some (.deferred (some [])) → (W3.putObj (W.heap.size + 1) o).heap[W.heap.size]? = some (.deferred (some [])) := fun h => (World.putObj_heap_other (by omega)).trans h
  cases hR : runM t (bs ++ s) with
  | some r =>
    obtain ⟨t', bs'⟩ := r
    rw [hR] at hm
    obtain ⟨⟨j1, j2, j3⟩, hg', D', hrd, hD⟩ := hm
    have f2 := fr_put W3 (W.heap.size + 1) (.loop { recF fn a W.heap.size .ready none with state := .exhausted })
    have hDn : ∀ x ∈ b :: D', x ∉ [W.heap.size + 1] := fun x hx hm => by
      obtain rfl := List.mem_singleton.1 hm
      rcases List.mem_cons.1 hx with h1 | h1
      · have := hlt b (List.mem_cons_self ..); omega
      · exact (hD _ h1).2 (by simp)
    refine ⟨none, _, run_endLoop j1 (by intro h; cases h), ?_⟩
    refine hdone t' bs' D' _ _ hR rfl (by rw [h.df]; rfl) hg' (hrd.fr f2 hDn) (j3.fr f2 (fun hm => ?_) (fun hm => ?_)) (f3 _) (fun y hy => ?_) (nD j2)
    · have := List.mem_singleton.1 hm
      have h4 := h.ow.r.1
      simp only at h4
      omega
    · have := List.mem_singleton.1 hm
      have h4 := h.ow.c.1
      simp only at h4
      omega
    · refine ⟨?_, (hD y hy).2⟩
      rcases (hD y hy).1 with h1 | h1
      · exact .inl h1
      · exact .inr (by omega)
  | none =>
    rw [hR] at hm
    obtain ⟨j1, j2, j3, j4⟩ := hm
    have f2 := fr_put W3 (W.heap.size + 1) (.loop { recF fn a W.heap.size .done (some .ret) with state := .exhausted })
    refine ⟨some .ret, _, run_endLoop j1 (by intro h; cases h), ?_⟩
    refine wpIn_ret ?_
    refine hstop _ _ hR rfl (by rw [h.df]; rfl) (rowAt_fr j3 f2 fun hm => ?_) (rowAt_fr j4 f2 fun hm => ?_) (f3 _) (nD j2)
    · have := List.mem_singleton.1 hm
      have h4 := hlt b (List.mem_cons_self ..)
      simp only at this
      omega
    · have := List.mem_singleton.1 hm
      have h4 := h.ow.c.1
      simp only at h4 this
      omega
end
end Go.Proofs.Ytglipljilcdboaa
