/- A range over a function, where the iterator has blocks of its own that turn between two rounds: which blocks the rounds may turn is carried as a set. No condition of its own. -/
import Derived.Test.YtdajmekliodmcaaGreatDoorProg
import Derived.RangeFuncNested
import Derived.RangeFuncBound
import Derived.RangeFuncCalls
import Derived.RangeFuncLeaves
import Derived.Shelf.Abstract
import Derived.Shelf.RegionOpen
import Derived.WalkKit
import Derived.OwnWalkIn
import Derived.TacticsInMore
import Derived.LoopNIn
import Derived.LoopIn
import Derived.StillTail
namespace Go.Proofs.YtdajmekliodmcaaGreatDoor
open Go.RowKit Go.Shelf
set_option linter.unusedVariables false

/-- From W to W2 nothing has turned but what is in S; S2 has, of what lay, nothing that S has not. -/
structure Ext (S S2 : Nat → Prop) (W W2 : World) : Prop where
  os : W2.os = W.os
  tape : W2.tape = W.tape
  output : W2.output = W.output
  size : W.heap.size ≤ W2.heap.size
  new : ∀ k, k < W.heap.size → ¬ S k → ¬ S2 k
  keep : ∀ k, k < W.heap.size → ¬ S k → W2.heap[k]? = W.heap[k]?

theorem Ext.refl (S : Nat → Prop) (W : World) : Ext S S W W := ⟨rfl, rfl, rfl, Nat.le_refl _, fun _ _ h => h, fun _ _ _ => rfl⟩
theorem Ext.trans {S T U : Nat → Prop} {A B C : World} (h : Ext S T A B) (k : Ext T U B C) : Ext S U A C :=
  ⟨k.os.trans h.os, k.tape.trans h.tape, k.output.trans h.output, Nat.le_trans h.size k.size,
   fun i hi hs => k.new i (Nat.lt_of_lt_of_le hi h.size) (h.new i hi hs),
   fun i hi hs => (k.keep i (Nat.lt_of_lt_of_le hi h.size) (h.new i hi hs)).trans (h.keep i hi hs)⟩
theorem Ext.below {S T : Nat → Prop} {A B : World} {n : Nat} (h : Ext S T A B) (hn : n ≤ A.heap.size) (hs : ∀ k, S k → n ≤ k) : Below n A B :=
  ⟨h.os, h.tape, h.output, h.size, fun k hk => h.keep k (by omega) (fun h2 => by have := hs k h2; omega)⟩
theorem Ext.drew {S T : Nat → Prop} {A B : World} (h : Ext S T A B) : Ext S T A B.drew := ⟨h.os, h.tape, h.output, h.size, h.new, h.keep⟩
theorem Ext.undrew {S T : Nat → Prop} {A B : World} (h : Ext S T A.drew B) : Ext S T A B := ⟨h.os, h.tape, h.output, h.size, h.new, h.keep⟩
/-- What is not in S, and lay, may be struck from what S is said to be. -/
theorem Ext.weaken {S S1 T T1 : Nat → Prop} {A B : World} (h : Ext S T A B) (hS : ∀ k, k < A.heap.size → ¬ S1 k → ¬ S k) (hT : ∀ k, k < A.heap.size → ¬ S1 k → ¬ T k → ¬ T1 k) : Ext S1 T1 A B :=
  ⟨h.os, h.tape, h.output, h.size, fun k hk hs => hT k hk hs (h.new k hk (hS k hk hs)), fun k hk hs => h.keep k hk (hS k hk hs)⟩
theorem Ext.cell {S T : Nat → Prop} {A B : World} (h : Ext S T A B) {p : Addr} (hp : p.block < A.heap.size) (hs : ¬ S p.block) : B.cell? p = A.cell? p :=
  World.cell?_of_block (w := A) (h.keep p.block hp hs)
theorem Ext.of_below {W W2 : World} (S : Nat → Prop) (h : Below W.heap.size W W2) : Ext S S W W2 :=
  ⟨h.os, h.tape, h.output, h.size, fun _ _ h => h, fun k hk _ => h.block k hk⟩

/-- What J says hangs on S's blocks alone. -/
structure Dep (J : List Nat → (Nat → Prop) → World → Prop) : Prop where
  same : ∀ x S W W2, J x S W → W.heap.size ≤ W2.heap.size → (∀ k, S k → W2.heap[k]? = W.heap[k]?) → J x S W2
  lt : ∀ x S W, J x S W → ∀ k, S k → k < W.heap.size

theorem Dep.alloc {J : List Nat → (Nat → Prop) → World → Prop} (h : Dep J) {x : List Nat} {S : Nat → Prop} {W : World} (o : Obj) (hj : J x S W) : J x S (W.alloc o) :=
  h.same x S W _ hj (by simp) (fun k hk => Below.heap_alloc _ _ _ (h.lt _ _ _ hj k hk))
theorem Dep.drew {J : List Nat → (Nat → Prop) → World → Prop} (h : Dep J) {x : List Nat} {S : Nat → Prop} {W : World} (hj : J x S W) : J x S W.drew :=
  h.same x S W _ hj (Nat.le_refl _) (fun _ _ => rfl)
theorem Dep.setCell {J : List Nat → (Nat → Prop) → World → Prop} (h : Dep J) {x : List Nat} {S : Nat → Prop} {W : World} (p : Addr) (v : Value) (hp : ¬ S p.block) (hj : J x S W) : J x S (W.setCell p v) :=
  h.same x S W _ hj (by simp [World.setCell]) (fun k hk => Below.heap_setCell _ _ _ _ (fun e => hp (e ▸ hk)))
theorem Dep.put {J : List Nat → (Nat → Prop) → World → Prop} (h : Dep J) {x : List Nat} {S : Nat → Prop} {W : World} (l : Nat) (o : Obj) (hp : ¬ S l) (hj : J x S W) : J x S (W.putObj l o) :=
  h.same x S W _ hj (by simp) (fun k hk => World.putObj_heap_other (fun e => hp (e ▸ hk)))

section
variable {P : Program}
/-- What a round hands back. -/
def YPost (J Jx : List Nat → (Nat → Prop) → World → Prop) (xs : List Nat) (S : Nat → Prop) (W : World) (e : Ending) (W2 : World) : Prop :=
  ∃ S2, Ext S S2 W W2 ∧ ((e = .returned (.bool true) ∧ J xs S2 W2) ∨ (e = .returned (.bool false) ∧ Jx xs S2 W2))

/-- The iterator value (g, lb), made by w0, hands out xs, one by one; of what lay below n0 at its making it asks that it stand. -/
def SeqOK (P : Program) (g : Nat) (lb : Array Value) (xs : List Nat) (n0 : Nat) (w0 : World) : Prop :=
  n0 ≤ w0.heap.size ∧ ∀ (m l : Nat) (J Jx : List Nat → (Nat → Prop) → World → Prop) (S : Nat → Prop) (W : World), Below n0 w0 W → Dep J → Dep Jx → (∀ k, S k → n0 ≤ k) →
    (∀ (pre : List Nat) (x : Nat) (S1 : Nat → Prop) (W1 : World), Ext S S1 W W1 → J pre S1 W1 → pre ++ [x] <+: xs → YieldAt Fence.wide 0 P l #[.int .u8 (x : Int)] W1 (YPost J Jx (pre ++ [x]) S1 W1)) →
    J [] S W →
    CallsIn Fence.wide m P g (#[.func (.yield l) #[] #[]] ++ lb) W fun e W2 => (∃ v, e = .returned v) ∧ ∃ S2, Ext S S2 W W2 ∧ (J xs S2 W2 ∨ ∃ pre, pre <+: xs ∧ Jx pre S2 W2)

theorem SeqOK.later {g : Nat} {lb : Array Value} {xs : List Nat} {n0 : Nat} {w0 w1 : World} (h : SeqOK P g lb xs n0 w0) (hb : Below n0 w0 w1) : SeqOK P g lb xs n0 w1 :=
  ⟨Nat.le_trans h.1 hb.size, fun m l J Jx S W hW => h.2 m l J Jx S W (hb.trans hW)⟩
theorem SeqOK.up {g : Nat} {lb : Array Value} {xs : List Nat} {n0 n1 : Nat} {w0 : World} (h : SeqOK P g lb xs n0 w0) (hn : n0 ≤ n1) (h1 : n1 ≤ w0.heap.size) : SeqOK P g lb xs n1 w0 :=
  ⟨h1, fun m l J Jx S W hW hJ hJx hS => h.2 m l J Jx S W (hW.mono hn) hJ hJx (fun k hk => Nat.le_trans hn (hS k hk))⟩

theorem anyDepthR {F : Fence} (hd : F.depth = none) {m m2 : Nat} {l : Nat} {f : FuncId} {tmps : Array Value} {assign body : Code} {w : World} {R : Ending → World → Prop}
    (h : RoundIn F m P l f tmps assign body w R) : RoundIn F m2 P l f tmps assign body w R := ⟨h.1, fun c cs _ => h.2 c cs (fun d hd2 => by rw [hd] at hd2; cases hd2)⟩
theorem anyDepthY {F : Fence} (hd : F.depth = none) {m : Nat} (m2 : Nat) {l : Nat} {args : Array Value} {W : World} {R : Ending → World → Prop} (h : YieldAt F m P l args W R) : YieldAt F m2 P l args W R := by
  obtain ⟨fn, tmps, assign, body, hy, hR⟩ := h
  exact ⟨fn, tmps, assign, body, hy, anyDepthR hd hR⟩

/-- How the body of a round may be left. -/
def setPost (I : List Nat → (Nat → Prop) → World → Prop) (Ix : Code → List Nat → (Nat → Prop) → World → Prop) (xs : List Nat) (S : Nat → Prop) (W : World) : Exit → Act → World → Prop
  | .normal, _, W2 => ∃ S2, Ext S S2 W W2 ∧ I xs S2 W2
  | .ret, _, W2 => ∃ S2, Ext S S2 W W2 ∧ Ix .ret xs S2 W2
  | .exit id, _, W2 => ∃ S2, Ext S S2 W W2 ∧ Ix (.exit id) xs S2 W2
  | .goto t, _, W2 => ∃ S2, Ext S S2 W W2 ∧ Ix (.goto t) xs S2 W2
  | .panic _, _, _ => False
  | .outgrown, _, _ => False

/-- Two sets side by side. -/
def plus2 (S : Nat → Prop) (a b : Nat) : Nat → Prop := fun k => S k ∨ k = a ∨ k = b

theorem wpIn_rangeFunc_set {n : Nat} {g : Operand} {ps : Array Tmp} {assign body : Code} {Q : Exit → Act → World → Prop} {a : Act} {w : World}
    {gf : Nat} {lb : Array Value} (hg : a.eval g = .func (.func gf) #[] lb) (eg : ∀ args w, (callFunc gf args).run P w = .ok (.enter gf args) w)
    {xs : List Nat} {n0 : Nat} {w0 : World} (hseq : SeqOK P gf lb xs n0 w0) (hb0 : Below n0 w0 w) (hps : ps.size = 1)
    (I : List Nat → (Nat → Prop) → World → Prop) (Ix : Code → List Nat → (Nat → Prop) → World → Prop) (hI : Dep I) (hIx : ∀ c, Dep (Ix c))
    (S0 : Nat → Prop) (hS0 : ∀ k, S0 k → n0 ≤ k) (h0 : I [] S0 w) (a₁ : Nat → Act)
    (hassign : ∀ (l x : Nat) (W : World) (K : Act → World → Prop), K (a₁ x) W →
      assign.wpIn (Fence.wide.inRound l) n P (Exit.then K (fun _ _ _ => False)) { tmps := (ps.zip #[.int .u8 (x : Int)]).foldl (fun t (p, v) => t.setIfInBounds p v) a.tmps, defers := [] } W)
    (hbody : ∀ (l : Nat) (pre : List Nat) (x : Nat) (S : Nat → Prop) (W : World), Ext S0 S w W → I pre S W → pre ++ [x] <+: xs → body.wpIn (Fence.wide.inRound l) n P (setPost I Ix (pre ++ [x]) S W) (a₁ x) W)
    (hdone : ∀ (D : Nat) (S2 : Nat → Prop) (W : World), w.heap.size ≤ D → ¬ S2 D → Ext S0 S2 w W → I xs S2 W → W.heap[D]? = some (.deferred (some [])) → Q .normal { a with defers := { target := .collected D, args := #[] } :: a.defers } W)
    (hstop : ∀ (D : Nat) (c : Code) (pre : List Nat) (S2 : Nat → Prop) (W : World), w.heap.size ≤ D → ¬ S2 D → Ext S0 S2 w W → pre <+: xs → Ix c pre S2 W → W.heap[D]? = some (.deferred (some [])) → c.wpIn Fence.wide n P Q { a with defers := { target := .collected D, args := #[] } :: a.defers } W) :
    (Code.rangeFunc g ps assign body).wpIn Fence.wide n P Q a w := by
  refine wpIn_rangeFunc ?_
  intro fn hfn
  obtain ⟨rec, hrec⟩ : ∃ rec : LoopState → Option Code → Loop, rec = fun st pe => { state := st, pending := pe, fn, tmps := a.tmps, params := ps, assign, body, defers := w.heap.size } := ⟨_, rfl⟩
  obtain ⟨W1, hW1⟩ : ∃ W1, (w.alloc (.deferred (some []))).alloc (.loop (rec .ready none)) = W1 := ⟨_, rfl⟩
  have hsz1 : W1.heap.size = w.heap.size + 2 := by rw [← hW1]; simp
  have hL1 : W1.heap[w.heap.size + 1]? = some (.loop (rec .ready none)) := by
    rw [← hW1]; have := World.alloc_heap_new (w.alloc (.deferred (some []))) (.loop (rec .ready none)); rwa [World.size_alloc] at this
  have hK1 : W1.heap[w.heap.size]? = some (.deferred (some [])) := by
    rw [← hW1]; exact (Below.heap_alloc _ _ _ (by simp)).trans (World.alloc_heap_new w _)
  have hI1 : I [] S0 W1 := by rw [← hW1]; exact hI.alloc _ (hI.alloc _ h0)
  have hbw : Below w.heap.size w W1 := by rw [← hW1]; exact ((Below.refl _ w).alloc (Nat.le_refl _) _).alloc (by simp) _
  have hn0 : n0 ≤ w.heap.size := Nat.le_trans hseq.1 hb0.size
  have hS0w : ∀ k, S0 k → k < w.heap.size := hI.lt _ _ _ h0
  have hE1 : Ext S0 S0 w W1 := Ext.of_below S0 hbw
  refine ⟨w.heap.size + 1, [{ target := .collected w.heap.size, args := #[] }], W1, { target := .fn (.func gf) lb, args := #[.func (.yield (w.heap.size + 1)) #[] #[]] }, W1, gf,
    #[.func (.yield (w.heap.size + 1)) #[] #[]] ++ lb, W1, ?_, ?_, ?_, ?_, fun h => (by cases h), ?_⟩
  · rw [← hW1, hrec]; exact run_enterLoop_outer _ _ _ _ _
  · simp only [resolve, hg]
    simp [go_sem]
  · intro f' _; trivial
  · simp [invoke, go_sem, eg]
  · refine (hseq.2 (n - 1) (w.heap.size + 1)
      (fun pre S W => ∃ SI, (∀ k, S k ↔ plus2 SI (w.heap.size + 1) w.heap.size k) ∧ ¬ SI (w.heap.size + 1) ∧ ¬ SI w.heap.size ∧ I pre SI W ∧ W.heap[w.heap.size + 1]? = some (.loop (rec .ready none)) ∧ W.heap[w.heap.size]? = some (.deferred (some [])))
      (fun pre S W => ∃ SI c, (∀ k, S k ↔ plus2 SI (w.heap.size + 1) w.heap.size k) ∧ ¬ SI (w.heap.size + 1) ∧ ¬ SI w.heap.size ∧ Ix c pre SI W ∧ W.heap[w.heap.size + 1]? = some (.loop (rec .done (some c))) ∧ W.heap[w.heap.size]? = some (.deferred (some [])))
      (plus2 S0 (w.heap.size + 1) w.heap.size) W1 (hb0.trans (hbw.mono hn0)) ?_ ?_ ?_ ?_ ?_).mono ?_
    · refine ⟨fun x S A B ⟨SI, hS, h1, h2, hi, hl, hk⟩ hsz hsame => ⟨SI, hS, h1, h2, hI.same _ _ _ _ hi hsz (fun k hk2 => hsame k ((hS k).2 (.inl hk2))), (hsame _ ((hS _).2 (.inr (.inl rfl)))).trans hl, (hsame _ ((hS _).2 (.inr (.inr rfl)))).trans hk⟩, ?_⟩
      rintro x S A ⟨SI, hS, h1, h2, hi, hl, hk⟩ k hk2
      rcases (hS k).1 hk2 with h | rfl | rfl
      · exact hI.lt _ _ _ hi k h
      · exact (Array.getElem?_eq_some_iff.1 hl).1
      · exact (Array.getElem?_eq_some_iff.1 hk).1
    · refine ⟨fun x S A B ⟨SI, c, hS, h1, h2, hi, hl, hk⟩ hsz hsame => ⟨SI, c, hS, h1, h2, (hIx c).same _ _ _ _ hi hsz (fun k hk2 => hsame k ((hS k).2 (.inl hk2))), (hsame _ ((hS _).2 (.inr (.inl rfl)))).trans hl, (hsame _ ((hS _).2 (.inr (.inr rfl)))).trans hk⟩, ?_⟩
      rintro x S A ⟨SI, c, hS, h1, h2, hi, hl, hk⟩ k hk2
      rcases (hS k).1 hk2 with h | rfl | rfl
      · exact (hIx c).lt _ _ _ hi k h
      · exact (Array.getElem?_eq_some_iff.1 hl).1
      · exact (Array.getElem?_eq_some_iff.1 hk).1
    · rintro k (h | rfl | rfl)
      · exact hS0 k h
      · omega
      · omega
    · -- one round
      rintro pre x S1 W hE ⟨SI, hS, hn1, hn2, hi, hl, hk⟩ hpre
      have hlt : w.heap.size + 1 < W.heap.size := (Array.getElem?_eq_some_iff.1 hl).1
      have hy := run_yield (P := P) (args := #[.int .u8 (x : Int)]) hl (by rw [hrec]; exact hps.symm)
      rw [hrec] at hy
      refine ⟨fn, _, assign, body, hy, anyDepthR (m := n) rfl (roundIn_of_wpIn hfn (hassign _ x W _ ⟨_, run_beginRound hl (by rw [hrec]), ?_⟩))⟩
      clear hy
      have hl2 : (W.putObj (w.heap.size + 1) (.loop { rec .ready none with state := .busy })).heap[w.heap.size + 1]? = some (.loop { rec .ready none with state := .busy }) := World.putObj_heap_same hlt
      have hk2 : (W.putObj (w.heap.size + 1) (.loop { rec .ready none with state := .busy })).heap[w.heap.size]? = some (.deferred (some [])) := (World.putObj_heap_other (by omega)).trans hk
      have hEw : Ext S0 SI w (W.putObj (w.heap.size + 1) (.loop { rec .ready none with state := .busy })) := by
        have h3 := grownBy_putObj' W (w.heap.size + 1) (.loop { rec .ready none with state := .busy })
        refine ⟨h3.os.trans (hE.os.trans hE1.os), h3.tape.trans (hE.tape.trans hE1.tape), h3.output.trans (hE.output.trans hE1.output), by simp; omega, fun k hk3 hs h4 => ?_, fun k hk3 hs => ?_⟩
        · exact hE.new k (by omega) (by rintro (h | h | h); exact hs h; omega; omega) ((hS k).2 (.inl h4))
        · rw [World.putObj_heap_other (by omega), hE.keep k (by omega) (by rintro (h | h | h); exact hs h; omega; omega)]
          exact hbw.block k hk3
      refine wpIn_mono (hbody _ pre x SI _ hEw (hI.put _ _ hn1 hi) hpre) ?_
      have fin : ∀ (jump : Option Code) (SJ : Nat → Prop) (W3 : World), Ext SI SJ (W.putObj (w.heap.size + 1) (.loop { rec .ready none with state := .busy })) W3 →
          (Instr.endRound (w.heap.size + 1) jump).run P W3 = .ok (.bool jump.isNone) (W3.putObj (w.heap.size + 1) (.loop (rec (if jump.isNone then .ready else .done) jump))) ∧
          ¬ SJ (w.heap.size + 1) ∧ ¬ SJ w.heap.size ∧
          (W3.putObj (w.heap.size + 1) (.loop (rec (if jump.isNone then .ready else .done) jump))).heap[w.heap.size + 1]? = some (.loop (rec (if jump.isNone then .ready else .done) jump)) ∧
          (W3.putObj (w.heap.size + 1) (.loop (rec (if jump.isNone then .ready else .done) jump))).heap[w.heap.size]? = some (.deferred (some [])) ∧
          Ext S1 (plus2 SJ (w.heap.size + 1) w.heap.size) W (W3.putObj (w.heap.size + 1) (.loop (rec (if jump.isNone then .ready else .done) jump))) := fun jump SJ W3 hk3 => by
        have hszp : (W.putObj (w.heap.size + 1) (.loop { rec .ready none with state := .busy })).heap.size = W.heap.size := by simp
        have hl3 := (hk3.keep _ (by omega) hn1).trans hl2
        have hr := run_endRound (P := P) jump hl3
        rw [hrec] at hr ⊢
        refine ⟨hr, hk3.new _ (by omega) hn1, hk3.new _ (by omega) hn2, World.putObj_heap_same (Array.getElem?_eq_some_iff.1 hl3).1, (World.putObj_heap_other (by omega)).trans ((hk3.keep _ (by omega) hn2).trans hk2), ?_⟩
        refine ⟨hk3.os, hk3.tape, hk3.output, by have := hk3.size; simp; omega, fun k hk4 hs => ?_, fun k hk4 hs => ?_⟩
        · rintro (h | rfl | rfl)
          · exact hk3.new k (by omega) (fun h5 => hs ((hS k).2 (.inl h5))) h
          · exact hs ((hS _).2 (.inr (.inl rfl)))
          · exact hs ((hS _).2 (.inr (.inr rfl)))
        · have hkl : k ≠ w.heap.size + 1 := fun e => hs ((hS k).2 (.inr (.inl e)))
          rw [World.putObj_heap_other hkl, hk3.keep k (by omega) (fun h5 => hs ((hS k).2 (.inl h5))), World.putObj_heap_other hkl]
      rintro e a3 W3 hp
      cases e with
      | normal =>
        obtain ⟨SJ, hk3, hi3⟩ := hp
        obtain ⟨hr, q1, q2, hl4, hk4, hE4⟩ := fin none SJ W3 hk3
        exact ⟨_, _, hr, _, hE4, .inl ⟨rfl, SJ, fun _ => Iff.rfl, q1, q2, hI.put _ _ q1 hi3, hl4, hk4⟩⟩
      | ret =>
        obtain ⟨SJ, hk3, hi3⟩ := hp
        obtain ⟨hr, q1, q2, hl4, hk4, hE4⟩ := fin (some .ret) SJ W3 hk3
        exact ⟨_, _, hr, _, hE4, .inr ⟨rfl, SJ, .ret, fun _ => Iff.rfl, q1, q2, (hIx _).put _ _ q1 hi3, hl4, hk4⟩⟩
      | exit id =>
        obtain ⟨SJ, hk3, hi3⟩ := hp
        obtain ⟨hr, q1, q2, hl4, hk4, hE4⟩ := fin (some (.exit id)) SJ W3 hk3
        exact ⟨_, _, hr, _, hE4, .inr ⟨rfl, SJ, .exit id, fun _ => Iff.rfl, q1, q2, (hIx _).put _ _ q1 hi3, hl4, hk4⟩⟩
      | goto t =>
        obtain ⟨SJ, hk3, hi3⟩ := hp
        obtain ⟨hr, q1, q2, hl4, hk4, hE4⟩ := fin (some (.goto t)) SJ W3 hk3
        exact ⟨_, _, hr, _, hE4, .inr ⟨rfl, SJ, .goto t, fun _ => Iff.rfl, q1, q2, (hIx _).put _ _ q1 hi3, hl4, hk4⟩⟩
      | panic ch => exact hp.elim
      | outgrown => exact hp.elim
    · exact ⟨S0, fun _ => Iff.rfl, fun h => by have := hS0w _ h; omega, fun h => by have := hS0w _ h; omega, hI1, hL1, hK1⟩
    · -- behind the iterator
      have out : ∀ (S2 SI : Nat → Prop) (W2 : World) (o : Obj), Ext (plus2 S0 (w.heap.size + 1) w.heap.size) S2 W1 W2 → (∀ k, S2 k ↔ plus2 SI (w.heap.size + 1) w.heap.size k) → Ext S0 SI w (W2.putObj (w.heap.size + 1) o) := fun S2 SI W2 o hE hS => by
        have h3 := grownBy_putObj' W2 (w.heap.size + 1) o
        refine ⟨h3.os.trans (hE.os.trans hE1.os), h3.tape.trans (hE.tape.trans hE1.tape), h3.output.trans (hE.output.trans hE1.output), by have := hE.size; simp; omega, fun k hk3 hs h4 => ?_, fun k hk3 hs => ?_⟩
        · exact hE.new k (by omega) (by rintro (h | h | h); exact hs h; omega; omega) ((hS k).2 (.inl h4))
        · rw [World.putObj_heap_other (by omega), hE.keep k (by omega) (by rintro (h | h | h); exact hs h; omega; omega)]
          exact hbw.block k hk3
      rintro e W2 ⟨⟨v, rfl⟩, S2, hE, (⟨SI, hS, hn1, hn2, hi, hl, hk⟩ | ⟨pre, hp, SI, c, hS, hn1, hn2, hi, hl, hk⟩)⟩
      · exact ⟨none, _, by have := run_endLoop (P := P) hl (by rw [hrec]; simp); rw [hrec] at this; exact this, hdone _ SI _ (Nat.le_refl _) hn2 (out _ _ _ _ hE hS) (hI.put _ _ hn1 hi) ((World.putObj_heap_other (by omega)).trans hk)⟩
      · exact ⟨some c, _, by have := run_endLoop (P := P) hl (by rw [hrec]; simp); rw [hrec] at this; exact this, hstop _ c pre SI _ (Nat.le_refl _) hn2 (out _ _ _ _ hE hS) hp ((hIx c).put _ _ hn1 hi) ((World.putObj_heap_other (by omega)).trans hk)⟩
end
end Go.Proofs.YtdajmekliodmcaaGreatDoor
