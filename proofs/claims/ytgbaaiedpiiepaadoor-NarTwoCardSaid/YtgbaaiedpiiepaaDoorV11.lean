/- Several texts, one behind the other; each says by itself what it proves, and on what conditions. -/
import Derived.Test.YtgbaaiedpiiepaaDoorV10
import Derived.Test.YtgbaaiedpiiepaaDoorProg
import Derived.RangeFuncFrom
import Derived.RangeFuncBox
import Derived.LoopIn
import Derived.RangeFuncCalls
/- A range over a function whose iterator turns, between two rounds, variables of its own that lay before: which, a relation of worlds says. No condition of its own. -/
namespace Go.Proofs.YtgbaaiedpiiepaaDoor
set_option linter.unusedSimpArgs false
open Go.RowKit
set_option linter.unusedVariables false
section
variable {P : Program} {F : Fence} {n : Nat} {α : Type}
/-- What is said stays true while the iterator turns what is its own. -/
def StillT (T : World → World → Prop) (J : List α → World → Prop) : Prop := ∀ s A C, T A C → J s A → J s C
/-- An iterator's contract, where T is what it turns itself. -/
def SeqT (T : World → World → Prop) (F : Fence) (n : Nat) (P : Program) (g : Nat) (lb : Array Value) (encs : α → Array Value) (Kp : World → World → Prop) (S Sp : List α → Prop) (N : Nat) (w : World) : Prop :=
  ∀ (l : Nat) (J Jx : List α → World → Prop) (W : World), Below w.heap.size w W → AbidesFrom W.heap.size J → AbidesFrom W.heap.size Jx → StillT T J → StillT T Jx →
    (∀ pre x W1, J pre W1 → pre.length < N → YieldAt F (n - 1) P l (encs x) W1 fun e W' =>
      (e = .returned (.bool true) ∧ J (pre ++ [x]) W' ∧ Kp W1 W') ∨ (e = .returned (.bool false) ∧ Jx (pre ++ [x]) W')) →
    J [] W →
    CallsIn F n P g (#[.func (.yield l) #[] #[]] ++ lb) W fun e W' => (∃ v, e = .returned v) ∧ ((∃ xs, S xs ∧ J xs W') ∨ (∃ pre, Sp pre ∧ Jx pre W'))
theorem wpIn_range_T {g : Operand} {ps : Array Tmp} {assign body : Code} {Q : Exit → Act → World → Prop} {a : Act} {w : World} (T : World → World → Prop)
    (hro : F.round = none) (h1 : 1 ≤ n) {gf : Nat} {lb : Array Value} (hg : a.eval g = .func (.func gf) #[] lb) (hFg : F.fn gf) (eg : ∀ args w, (callFunc gf args).run P w = .ok (.enter gf args) w)
    {encs : α → Array Value} {Kp : World → World → Prop} {S Sp : List α → Prop} {N : Nat} {w0 : World} (hseq : SeqT T F (n - 1) P gf lb encs Kp S Sp N w0)
    (hT : ∀ A C, T A C → ∀ k, w.heap.size ≤ k → k < A.heap.size → C.heap[k]? = A.heap[k]?)
    (hKt : ∀ {A B C : World}, Kp A B → Kp B C → Kp A C) (hKb : ∀ (W : World) (l : Nat) (o o' : Obj), w.heap.size ≤ l → W.heap[l]? = some o → o.isCells = false → o.isWalk = false → Kp W (W.putObj l o')) (hb0 : Below w0.heap.size w0 w) (hps : ∀ x, (encs x).size = ps.size)
    (I : List α → World → Prop) (Ix : Code → List α → World → Prop) (hI : OwnFrom w.heap.size I) (hIx : ∀ c, OwnFrom w.heap.size (Ix c)) (hIT : StillT T I) (hIxT : ∀ c, StillT T (Ix c)) (h0 : I [] w) (a₁ : α → Act)
    (hassign : ∀ (l : Nat) (x : α) (W : World) (K : Act → World → Prop), K (a₁ x) W →
      assign.wpIn (F.inRound l) (n - 1 - 1) P (Exit.then K (fun _ _ _ => False)) { tmps := (ps.zip (encs x)).foldl (fun t (p, v) => t.setIfInBounds p v) a.tmps, defers := [] } W)
    (hbody : ∀ (l : Nat) (pre : List α) (x : α) (W : World), I pre W → pre.length < N → body.wpIn (F.inRound l) (n - 1 - 1) P (ownPostK Kp I Ix (pre ++ [x]) W) (a₁ x) W)
    (hdone : ∀ (D : Nat) (xs : List α) (W : World), w.heap.size ≤ D → S xs → I xs W → W.heap[D]? = some (.deferred (some [])) → Q .normal { a with defers := { target := .collected D, args := #[] } :: a.defers } W)
    (hstop : ∀ (D : Nat) (c : Code) (pre : List α) (W : World), w.heap.size ≤ D → Sp pre → Ix c pre W → W.heap[D]? = some (.deferred (some [])) → c.wpIn F n P Q { a with defers := { target := .collected D, args := #[] } :: a.defers } W) :
    (Code.rangeFunc g ps assign body).wpIn F n P Q a w := by
  refine wpIn_rangeFunc ?_
  intro fn hfn
  rw [hro]
  obtain ⟨m, hm⟩ : ∃ m, m = w.heap.size := ⟨_, rfl⟩
  obtain ⟨rec, hrec⟩ : ∃ rec : LoopState → Option Code → Loop, rec = fun st pe => { state := st, pending := pe, fn, tmps := a.tmps, params := ps, assign, body, defers := m } := ⟨_, rfl⟩
  obtain ⟨W1, hW1⟩ : ∃ W1, (w.alloc (.deferred (some []))).alloc (.loop (rec .ready none)) = W1 := ⟨_, rfl⟩
  have hs1 : W1.heap.size = m + 2 := by rw [← hW1, hm]; simp
  have two : ∀ (W : World) (c : Option Code) (st : LoopState), (W.heap[m + 1]? = some (.loop (rec st c)) ∧ W.heap[m]? = some (.deferred (some []))) → m + 1 < W.heap.size := fun W c st h => (Array.getElem?_eq_some_iff.1 h.1).1
  have hL1 : W1.heap[m + 1]? = some (.loop (rec .ready none)) ∧ W1.heap[m]? = some (.deferred (some [])) := by
    rw [← hW1, hm]
    exact ⟨by have := World.alloc_heap_new (w.alloc (.deferred (some []))) (.loop (rec .ready none)); rwa [World.size_alloc] at this, (Below.heap_alloc _ _ _ (by simp)).trans (World.alloc_heap_new w _)⟩
  have hI1 : I [] W1 := by rw [← hW1]; exact hI.alloc _ (hI.alloc _ h0)
  have hb1 : Below w0.heap.size w0 W1 := by
    rw [← hW1]; exact hb0.trans ((((Below.refl _ w).alloc (Nat.le_refl _) _).alloc (by simp) _).mono hb0.size)
  -- two blocks of book-keeping stay where what turns is a walk above, or the iterator's own
  have keepG : ∀ {A B : World} {row : Option Nat} {c : Option Code} {st : LoopState}, A.grownBy B row → (∀ r, row = some r → W1.heap.size ≤ r ∧ ∃ o : Obj, A.heap[r]? = some o ∧ o.isWalk = true) → (A.heap[m + 1]? = some (.loop (rec st c)) ∧ A.heap[m]? = some (.deferred (some []))) → (B.heap[m + 1]? = some (.loop (rec st c)) ∧ B.heap[m]? = some (.deferred (some []))) :=
    fun hg' hr hb => ⟨(grownBy_keeps hg' (fun r e => (hr r e).2) hb.1 rfl).trans hb.1, (grownBy_keeps hg' (fun r e => (hr r e).2) hb.2 rfl).trans hb.2⟩
  have keepT : ∀ {A B : World} {c : Option Code} {st : LoopState}, T A B → (A.heap[m + 1]? = some (.loop (rec st c)) ∧ A.heap[m]? = some (.deferred (some []))) → (B.heap[m + 1]? = some (.loop (rec st c)) ∧ B.heap[m]? = some (.deferred (some []))) :=
    fun ht hb => ⟨(hT _ _ ht (m + 1) (by omega) (two _ _ _ hb)).trans hb.1, (hT _ _ ht m (by omega) (by have := two _ _ _ hb; omega)).trans hb.2⟩
  have walk : ∀ {A : World} {row : Option Nat}, (∀ r, row = some r → W1.heap.size ≤ r ∧ ∃ o : Obj, A.heap[r]? = some o ∧ o.isWalk = true) → (∀ r, row = some r → w.heap.size ≤ r ∧ ∃ o : Obj, A.heap[r]? = some o ∧ o.isCells = false) :=
    fun hr r e => by obtain ⟨hB, o, ho, hw⟩ := hr r e; exact ⟨by omega, o, ho, Obj.not_cells_of_walk hw⟩
  refine ⟨m + 1, [{ target := .collected m, args := #[] }], W1, { target := .fn (.func gf) lb, args := #[.func (.yield (m + 1)) #[] #[]] }, W1, gf, #[.func (.yield (m + 1)) #[] #[]] ++ lb, W1, ?_, ?_, ?_, ?_, fun _ => h1, ?_⟩
  · rw [← hW1, hrec, hm]; exact run_enterLoop_outer _ _ _ _ _
  · simp only [resolve, hg]
    simp [go_sem]
  · intro f' hf'; simp [Target.leads] at hf'; subst hf'; exact hFg
  · simp [invoke, go_sem, eg]
  refine (hseq (m + 1) (fun pre W => I pre W ∧ (W.heap[m + 1]? = some (.loop (rec .ready none)) ∧ W.heap[m]? = some (.deferred (some [])))) (fun pre W => ∃ c, Ix c pre W ∧ (W.heap[m + 1]? = some (.loop (rec .done (some c))) ∧ W.heap[m]? = some (.deferred (some [])))) W1 hb1 ?_ ?_ ?_ ?_ ?_ ⟨hI1, hL1⟩).mono ?_
  · exact fun s A B row hs hg' hr => ⟨hI s A B row hs.1 hg' (walk hr), keepG hg' hr hs.2⟩
  · rintro s A B row ⟨c, hc, hb⟩ hg' hr
    exact ⟨c, hIx c s A B row hc hg' (walk hr), keepG hg' hr hb⟩
  · exact fun s A C ht hs => ⟨hIT s A C ht hs.1, keepT ht hs.2⟩
  · rintro s A C ht ⟨c, hc, hb⟩
    exact ⟨c, hIxT c s A C ht hc, keepT ht hb⟩
  · rintro pre x W ⟨hi, hb⟩ hlen
    have hlt := two _ _ _ hb
    have hy := run_yield (P := P) (args := encs x) hb.1 (by rw [hrec]; exact hps x)
    rw [hrec] at hy
    obtain ⟨V, hV⟩ : ∃ V, V = W.putObj (m + 1) (.loop { rec .ready none with state := .busy }) := ⟨_, rfl⟩
    refine ⟨fn, _, assign, body, hy, roundIn_of_wpIn hfn (hassign _ x W _ ⟨V, by rw [hV]; exact run_beginRound hb.1 (by rw [hrec]), ?_⟩)⟩
    have hl2 : V.heap[m + 1]? = some (.loop { rec .ready none with state := .busy }) := by rw [hV]; exact World.putObj_heap_same hlt
    have hk2 : V.heap[m]? = some (.deferred (some [])) := by rw [hV]; exact (World.putObj_heap_other (by omega)).trans hb.2
    have hw2 : Kp W V := by rw [hV]; exact hKb _ _ _ _ (by omega) hb.1 rfl rfl
    have hi2 : I pre V := by rw [hV]; exact hI.putObj _ hi (by omega) hb.1 rfl
    refine wpIn_mono (hbody _ pre x V hi2 hlen) ?_
    have fin : ∀ (jump : Option Code) (W3 : World), KeepsOthers V W3 → W3.heap[m + 1]? = some (.loop { rec .ready none with state := .busy }) ∧
        (Instr.endRound (m + 1) jump).run P W3 = .ok (.bool jump.isNone) (W3.putObj (m + 1) (.loop (rec (if jump.isNone then .ready else .done) jump))) ∧
        ((W3.putObj (m + 1) (.loop (rec (if jump.isNone then .ready else .done) jump))).heap[m + 1]? = some (.loop (rec (if jump.isNone then .ready else .done) jump)) ∧ (W3.putObj (m + 1) (.loop (rec (if jump.isNone then .ready else .done) jump))).heap[m]? = some (.deferred (some []))) := fun jump W3 hk3 => by
      have hl3 := hk3.same _ _ hl2 rfl
      have hr := run_endRound (P := P) jump hl3
      refine ⟨hl3, ?_, World.putObj_heap_same (Array.getElem?_eq_some_iff.1 hl3).1, (World.putObj_heap_other (by omega)).trans (hk3.same _ _ hk2 rfl)⟩
      rw [hrec] at hr ⊢
      exact hr
    have out : ∀ (c : Code) (W3 : World), KeepsOthers V W3 → Ix c (pre ++ [x]) W3 → ∃ v W4, (Instr.endRound (m + 1) (some c)).run P W3 = .ok v W4 ∧ ((Ending.returned v = .returned (.bool true) ∧ (I (pre ++ [x]) W4 ∧ (W4.heap[m + 1]? = some (.loop (rec .ready none)) ∧ W4.heap[m]? = some (.deferred (some [])))) ∧ Kp W W4) ∨ (Ending.returned v = .returned (.bool false) ∧ ∃ c, Ix c (pre ++ [x]) W4 ∧ (W4.heap[m + 1]? = some (.loop (rec .done (some c))) ∧ W4.heap[m]? = some (.deferred (some []))))) := fun c W3 hk3 hi3 => by
      obtain ⟨hl3, hr, hb4⟩ := fin (some c) W3 hk3
      exact ⟨_, _, hr, .inr ⟨rfl, c, (hIx c).putObj _ hi3 (by omega) hl3 rfl, hb4⟩⟩
    rintro e a3 W3 hp
    cases e with
    | normal =>
      obtain ⟨hk3, hkp3, hi3⟩ := hp
      obtain ⟨hl3, hr, hb4⟩ := fin none W3 hk3
      exact ⟨_, _, hr, .inl ⟨rfl, ⟨hI.putObj _ hi3 (by omega) hl3 rfl, hb4⟩, hKt (hKt hw2 hkp3) (hKb _ _ _ _ (by omega) hl3 rfl rfl)⟩⟩
    | ret => exact out _ W3 hp.1 hp.2
    | exit id => exact out _ W3 hp.1 hp.2
    | goto t => exact out _ W3 hp.1 hp.2
    | panic ch => exact hp.elim
    | outgrown => exact hp.elim
  · rintro e W2 ⟨⟨v, rfl⟩, (⟨xs, hS, hi, hb⟩ | ⟨pre, hSp, c, hi, hb⟩)⟩
    · exact ⟨none, _, by have := run_endLoop (P := P) hb.1 (by rw [hrec]; simp); rw [hrec] at this; exact this, by rw [hm]; exact hdone _ xs _ (Nat.le_refl _) hS (hm ▸ hI.putObj _ hi (by omega) hb.1 rfl) (hm ▸ (World.putObj_heap_other (by omega)).trans hb.2)⟩
    · exact ⟨some c, _, by have := run_endLoop (P := P) hb.1 (by rw [hrec]; simp); rw [hrec] at this; exact this, by rw [hm]; exact hstop _ c pre _ (Nat.le_refl _) hSp (hm ▸ (hIx c).putObj _ hi (by omega) hb.1 rfl) (hm ▸ (World.putObj_heap_other (by omega)).trans hb.2)⟩
end
end Go.Proofs.YtgbaaiedpiiepaaDoor
/- Of the program: the iterator of Go's strings over the pieces of a text between strokes, what it hands its rounds, whatever they do. Its condition: a text of no more than 1,000,000 bytes. -/
namespace Go.Proofs.YtgbaaiedpiiepaaDoor
open Go.RowKit Go.Shelf
set_option linter.unusedVariables false
set_option linter.unusedSimpArgs false
attribute [local go_sem] Oper.semAt_some
/-- The pieces of a text between strokes. -/
def splitL : List UInt8 → List (List UInt8)
  | [] => [[]]
  | c :: l => if c = 47 then [] :: splitL l else match splitL l with
    | [] => [[c]]
    | x :: r => (c :: x) :: r
theorem split_none : ∀ {l : List UInt8}, 47 ∉ l → splitL l = [l]
  | [], _ => rfl
  | c :: l, h => by
    rw [List.mem_cons, not_or] at h
    rw [splitL, if_neg (fun e => h.1 e.symm), split_none h.2]
theorem split_some : ∀ {a : List UInt8} (n : List UInt8), 47 ∉ a → splitL (a ++ 47 :: n) = a :: splitL n
  | [], n, _ => by rw [List.nil_append, splitL, if_pos rfl]
  | c :: a, n, h => by
    rw [List.mem_cons, not_or] at h
    rw [List.cons_append, splitL, if_neg (fun e => h.1 e.symm), split_some n h.2]
theorem split_len : ∀ l : List UInt8, (splitL l).length ≤ l.length + 1
  | [] => by simp [splitL]
  | c :: l => by
    have h := split_len l
    rw [splitL]
    split
    · simp; omega
    · split
      · simp
      · rename_i heq; rw [heq] at h; simp at h ⊢; omega
/-- What the iterator turns itself: a variable's box. -/
def Tb (g : Nat) (A C : World) : Prop := ∃ v, C = A.setCell ⟨g, 0, none⟩ v
def KpS (gs gp gv : Nat) (A B : World) : Prop := B.heap[gs]? = A.heap[gs]? ∧ B.heap[gp]? = A.heap[gp]? ∧ B.heap[gv]? = A.heap[gv]?
def encS (x : List UInt8) : Array Value := #[strV x]
def szAt (g : Nat) (W : World) : Nat := match W.cell? ⟨g, 0, none⟩ with
  | some (.string s) => s.size
  | _ => 0
theorem szAt_box {W : World} {g : Nat} {l : List UInt8} (h : Boxed W g 9 (strV l)) : szAt g W = l.length := by
  unfold szAt; rw [h.cell]; rfl
/-- The iterator's three variables. -/
def Bx3 (gs gp gv : Nat) (r : List UInt8) (W : World) : Prop := Boxed W gs 9 (strV r) ∧ Boxed W gp 9 (strV [47]) ∧ Boxed W gv 3 (.int .i64 0)
theorem Bx3.kept {gs gp gv : Nat} {r : List UInt8} {A B : World} (h : Bx3 gs gp gv r A) (k : KpS gs gp gv A B) : Bx3 gs gp gv r B :=
  ⟨Eq.trans k.1 h.1, Eq.trans k.2.1 h.2.1, Eq.trans k.2.2 h.2.2⟩
theorem boxed_other {W : World} {B g : Nat} {t : TypeId} {v u : Value} (h : Boxed W B t v) (hne : B ≠ g) : Boxed (W.setCell ⟨g, 0, none⟩ u) B t v :=
  (Below.heap_setCell _ _ _ _ hne).trans h
theorem load9 {W : World} {B : Nat} {l : List UInt8} (h : Boxed W B 9 (strV l)) : (loadVar 9 ⟨B, 0, none⟩).run Tryd.prog W = .ok (strV l) W := by
  have hc := h.cell
  have h1 := Tryd.isAgg9 W
  simp [loadVar, go_sem, h1, hc]
theorem index_any (l : List UInt8) (w : World) : Calls Tryd.prog 54 #[strV l, .string { data := #[47] }] w fun e w' => e = .returned (.int .i64 (Lib.indexByte l 47)) ∧ w' = w := strings_Index_one ⟨l.toArray⟩ 47 w
set_option maxRecDepth 100000 in
set_option maxHeartbeats 2000000 in
theorem split_in (m l gs gp gv : Nat) (s : List UInt8) (hs : s.length ≤ 1000000) (hsp : gp ≠ gs) (hsv : gv ≠ gs) (J Jx : List (List UInt8) → World → Prop) (hJT : StillT (Tb gs) J)
    (hY : ∀ pre x W, J pre W → pre.length < 1000001 → YieldAt Fence.wide (m - 1) Tryd.prog l (encS x) W fun e W' =>
      (e = .returned (.bool true) ∧ J (pre ++ [x]) W' ∧ KpS gs gp gv W W') ∨ (e = .returned (.bool false) ∧ Jx (pre ++ [x]) W'))
    (W : World) (hbox : Bx3 gs gp gv s W) (h0 : J [] W) (hm : 1 ≤ m) :
    CallsIn Fence.wide m Tryd.prog 76 #[.func (.yield l) #[] #[], .pointer (some ⟨gp, 0, none⟩), .pointer (some ⟨gs, 0, none⟩), .pointer (some ⟨gv, 0, none⟩)] W fun e W' => (∃ v, e = .returned v) ∧ ((∃ xs, xs = splitL s ∧ J xs W') ∨ (∃ pre, pre <+: splitL s ∧ Jx pre W')) := by
  refine callsIn_of_wp Tryd.func76 rfl trivial ?_ rfl
  simp only [Tryd.ntmps76, List.size_toArray, List.length_cons, List.length_nil, Nat.reduceAdd, Nat.reduceSub, Array.replicate_succ, Array.replicate_zero, List.push_toArray, List.append_toArray, List.nil_append, List.cons_append]
  have hBX := Lib.hid hbox
  have c2 : W.cell? ⟨gp, 0, none⟩ = some (.string { data := #[47] }) := hbox.2.1.cell
  clear hbox
  gi_wp2
  clear c2
  gi_loopw [] (fun wr => ∃ (pre : List (List UInt8)) (r : List UInt8), pre.length + r.length ≤ s.length ∧ splitL s = pre ++ splitL r ∧ J pre wr ∧ Bx3 gs gp gv r wr) (fun wr => szAt gs wr)
  case atStart => exact ⟨[], s, by simp, by simp, h0, hBX.out⟩
  case round =>
    clear hBX h0
    obtain ⟨pre, r, hlen, hpp, hJs, hbx⟩ := hrel
    have HP := Lib.hid hpp
    have HJ := Lib.hid hJs
    have HBX := Lib.hid hbx
    obtain ⟨R, hR⟩ : ∃ x : ByteArray, Hid (x = ⟨r.toArray⟩) := ⟨_, Lib.hid rfl⟩
    have hRv : strV r = .string R := by rw [hR.out]; rfl
    have hRs : R.size = r.length := by rw [hR.out]; rfl
    have c1 : wr.cell? ⟨gs, 0, none⟩ = some (.string R) := by rw [← hRv]; exact hbx.1.cell
    have c2 : wr.cell? ⟨gp, 0, none⟩ = some (.string { data := #[47] }) := hbx.2.1.cell
    have c3 : wr.cell? ⟨gv, 0, none⟩ = some (.int .i64 0) := hbx.2.2.cell
    have HC : Hid (∀ w, Calls Tryd.prog 54 #[.string R, .string { data := #[47] }] w fun e w' => e = .returned (.int .i64 (Lib.indexByte r 47)) ∧ w' = w) := Lib.hid (fun w => by rw [← hRv]; exact index_any r w)
    clear hpp hJs hbx
    by_cases h47 : 47 ∈ r
    · obtain ⟨a, n, e, ha⟩ := split_at h47
      have hi : Lib.indexByte r 47 = (a.length : Int) := by rw [e, ix_pos ha]
      have hal : a.length + 1 + n.length = r.length := by rw [e]; simp; omega
      rw [hi] at HC
      have hlr : (a.length : Int) ≤ (R.size : Int) := by omega
      have hlr1 : (a.length : Int) + 1 ≤ (R.size : Int) := by omega
      have hl0 : ¬ (a.length : Int) < 0 := by omega
      have hx1 : Hid (R.extract 0 a.length = ⟨a.toArray⟩) := Lib.hid (by
        rw [hR.out, e, ext_take]; simp)
      have hx2 : Hid (R.extract (a.length + 1) r.length = ⟨n.toArray⟩) := Lib.hid (by
        rw [ext_drop _ _ _ hRs.symm, hR.out, e]; simp)
      have HY := Lib.hid (hY pre a wr HJ.out (by omega))
      have HE := Lib.hid e
      have HA := Lib.hid ha
      clear h47 e ha hi
      gi_wp2_with (refine ⟨trivial, ?_⟩; gi_at_call 54; refine (callsIn_wide.2 (HC.out _)).mono ?_; rintro e w1 ⟨rfl, rfl⟩)
      obtain ⟨fn, tmps, assign, body, hy, hRR⟩ := HY.out
      have hR2 := Lib.hid hRR
      have hyy : (Instr.yield l #[.string (R.extract 0 a.length)]).run Tryd.prog w1 = .ok (.round l fn tmps assign body) w1 := by rw [hx1.out]; exact hy
      have HHY := Lib.hid hY
      clear hY hRR hy HY
      gi_wp2
      rw [hyy]
      gi_wp2
      refine hR2.out.mono ?_
      rintro e W3 (⟨rfl, hJ3, hk3⟩ | ⟨rfl, hJx3⟩)
      · have hbx3 := HBX.out.kept hk3
        have d1 : W3.cell? ⟨gs, 0, none⟩ = some (.string R) := by rw [← hRv]; exact hbx3.1.cell
        have d2 : W3.cell? ⟨gp, 0, none⟩ = some (.string { data := #[47] }) := hbx3.2.1.cell
        have d3 : W3.frozen? ⟨gs, 0, none⟩ = false := hbx3.1.frozen
        have HJ3 := Lib.hid hJ3
        have HB3 := Lib.hid hbx3
        clear hJ3 hbx3 hk3 hyy
        gi_wp2
        go_roundw
        case rel =>
          refine ⟨pre ++ [a], n, by simp; omega, ?_, hJT _ _ _ ⟨_, rfl⟩ HJ3.out, ?_, boxed_other HB3.out.2.1 hsp, boxed_other HB3.out.2.2 hsv⟩
          · rw [HP.out, HE.out, split_some n HA.out]; simp
          · have := HB3.out.1.set (.string (R.extract (a.length + 1) r.length))
            rw [hx2.out] at this ⊢
            exact this
        case measure =>
          have h1 := HB3.out.1.set (strV n)
          rw [szAt_box HBX.out.1, hx2.out]
          have h2 := szAt_box h1
          show szAt gs (W3.setCell ⟨gs, 0, none⟩ (strV n)) < _
          omega
      · clear hyy
        gi_wp2
        refine bodyPost_ret (results_none rfl _ _ _) rfl ?_
        exact ⟨⟨_, rfl⟩, Or.inr ⟨_, ⟨splitL n, by rw [HP.out, HE.out, split_some n HA.out]; simp⟩, hJx3⟩⟩
    · have hi : Lib.indexByte r 47 = -1 := ix_neg h47
      rw [hi] at HC
      have HY := Lib.hid (hY pre r wr HJ.out (by omega))
      have HN := Lib.hid h47
      clear h47 hi
      gi_wp2_with (refine ⟨trivial, ?_⟩; gi_at_call 54; refine (callsIn_wide.2 (HC.out _)).mono ?_; rintro e w1 ⟨rfl, rfl⟩)
      obtain ⟨fn, tmps, assign, body, hy, hRR⟩ := HY.out
      have hR2 := Lib.hid hRR
      have hyy : (Instr.yield l #[.string R]).run Tryd.prog w1 = .ok (.round l fn tmps assign body) w1 := by rw [← hRv]; exact hy
      have HHY := Lib.hid hY
      clear hY hRR hy HY
      gi_wp2
      rw [hyy]
      gi_wp2
      refine hR2.out.mono ?_
      rintro e W3 (⟨rfl, hJ3, hk3⟩ | ⟨rfl, hJx3⟩)
      · have hfin : pre ++ [r] = splitL s := by rw [HP.out, split_none HN.out]
        gi_wp2
        go_end0
        exact ⟨⟨_, rfl⟩, Or.inl ⟨_, hfin, hJ3⟩⟩
      · have hfin : pre ++ [r] = splitL s := by rw [HP.out, split_none HN.out]
        gi_wp2
        go_end0
        exact ⟨⟨_, rfl⟩, Or.inr ⟨_, ⟨[], by rw [hfin]; simp⟩, hJx3⟩⟩
theorem split_stops (m gs gp gv : Nat) (s : List UInt8) (hs : s.length ≤ 1000000) (hsp : gp ≠ gs) (hsv : gv ≠ gs) (w : World) (hbox : Bx3 gs gp gv s w) (hm : 1 ≤ m) :
    SeqT (Tb gs) Fence.wide m Tryd.prog 76 #[.pointer (some ⟨gp, 0, none⟩), .pointer (some ⟨gs, 0, none⟩), .pointer (some ⟨gv, 0, none⟩)] encS (KpS gs gp gv) (fun xs => xs = splitL s) (fun pre => pre <+: splitL s) 1000001 w := by
  intro l J Jx W hW _ _ hJ _ hY h0
  exact split_in m l gs gp gv s hs hsp hsv J Jx hJ hY W (hbox.kept ⟨hW.block _ hbox.1.lt, hW.block _ hbox.2.1.lt, hW.block _ hbox.2.2.lt⟩) h0 hm
end Go.Proofs.YtgbaaiedpiiepaaDoor
/- Of the program: whether a path is names, and no more than there may be. Its condition: a path of no more than 1,000,000 bytes. -/
namespace Go.Proofs.YtgbaaiedpiiepaaDoor
open Go.RowKit Go.Shelf
set_option linter.unusedVariables false
set_option linter.unusedSimpArgs false
attribute [local go_sem] Oper.semAt_some
def mayPathL (p : List UInt8) : Bool := decide ((splitL p).length ≤ 64) && (splitL p).all mayNameL
theorem load4 {W : World} {B : Nat} {v : Bool} (h : Boxed W B 4 (.bool v)) : (loadVar 4 ⟨B, 0, none⟩).run Tryd.prog W = .ok (.bool v) W := by
  have hc := h.cell
  have hu := Tryd.underlying4
  unfold loadVar
  go_simp
theorem results_cell1 {fn : Func} {a : Tmp} {t : TypeId} (h : fn.results = #[.cell a t]) (tmps : Array Value) (P : Program) (w : World) (ad : Addr) (ha : tmps.getD a undef = .pointer (some ad)) (v1 : Value)
    (hl : (loadVar t ad).run P w = .ok v1 w) : (results fn tmps).run P w = .ok v1 w := by
  have ha2 : tmps[a]?.getD undef = .pointer (some ad) := by rw [← Array.getD_eq_getD_getElem?]; exact ha
  unfold results
  rw [h]
  simp [Array.mapM_eq_mapM_toList, ha2, asAddr, hl]
theorem splitmake_in (n : Nat) (s : ByteArray) (w : World) :
    CallsIn Fence.wide n Tryd.prog 65 #[.string s, .string { data := #[47] }, .int .i64 0] w fun e w' => e = .returned (.func (.func 76) #[] #[.pointer (some ⟨w.heap.size + 1, 0, none⟩), .pointer (some ⟨w.heap.size, 0, none⟩), .pointer (some ⟨w.heap.size + 1 + 1, 0, none⟩)]) ∧ ((w.alloc (.cells #[.string s] 9)).alloc (.cells #[.string { data := #[47] }] 9)).alloc (.cells #[.int .i64 0] 3) = w' := by
  refine callsIn_of_wp Tryd.func65 rfl trivial ?_ rfl
  simp only [Tryd.ntmps65, List.size_toArray, List.length_cons, List.length_nil, Nat.reduceAdd, Nat.reduceSub, Array.replicate_succ, Array.replicate_zero, List.push_toArray, List.append_toArray, List.nil_append, List.cons_append]
  gi_wp2
  exact bodyPost_ret (fn := Tryd.f65) (results_tmp (t := 6) rfl _ _ _) rfl ⟨rfl, rfl⟩
theorem splitseq_in (n : Nat) (s : ByteArray) (w : World) :
    CallsIn Fence.wide n Tryd.prog 50 #[.string s, .string { data := #[47] }] w fun e w' => e = .returned (.func (.func 76) #[] #[.pointer (some ⟨w.heap.size + 1, 0, none⟩), .pointer (some ⟨w.heap.size, 0, none⟩), .pointer (some ⟨w.heap.size + 1 + 1, 0, none⟩)]) ∧ ((w.alloc (.cells #[.string s] 9)).alloc (.cells #[.string { data := #[47] }] 9)).alloc (.cells #[.int .i64 0] 3) = w' := by
  refine callsIn_of_wp Tryd.func50 rfl trivial ?_ rfl
  simp only [Tryd.ntmps50, List.size_toArray, List.length_cons, List.length_nil, Nat.reduceAdd, Nat.reduceSub, Array.replicate_succ, Array.replicate_zero, List.push_toArray, List.append_toArray, List.nil_append, List.cons_append]
  gi_wp2_with (refine ⟨trivial, fun h => (by cases h), ?_⟩; gi_at_call 65; refine (splitmake_in _ _ _).mono ?_; rintro e w' ⟨rfl, rfl⟩)
  go_ret
  exact ⟨rfl, rfl⟩
/-- What is known while the pieces come. -/
def PI (w : World) (pre : List (List UInt8)) (W : World) : Prop := Below w.heap.size w W ∧ Boxed W w.heap.size 4 (.bool false) ∧ Boxed W (w.heap.size + 1) 3 (.int .i64 (pre.length : Int)) ∧ pre.length ≤ 64 ∧ (∀ x ∈ pre, mayNameL x = true) ∧ w.heap.size + 5 ≤ W.heap.size
def PX (w : World) (pre : List (List UInt8)) (W : World) : Prop := Below w.heap.size w W ∧ Boxed W w.heap.size 4 (.bool false) ∧ (64 < pre.length ∨ ∃ x ∈ pre, mayNameL x = false) ∧ w.heap.size + 5 ≤ W.heap.size
theorem PI_own (w : World) (B : Nat) (hB : w.heap.size + 2 ≤ B) : OwnFrom B (PI w) := by
  rintro s W W' row ⟨h0, h1, h2, h3, h4, h5⟩ hg hr
  have ne : ∀ k, k < B → some k ≠ row := fun k hk e => by have := (hr k e.symm).1; omega
  exact ⟨h0.grown hg (by omega) (fun k e => by have := (hr k e).1; omega), h1.kept hg (ne _ (by omega)), h2.kept hg (ne _ (by omega)), h3, h4, Nat.le_trans h5 hg.size⟩
theorem PX_own (w : World) (B : Nat) (hB : w.heap.size + 2 ≤ B) : OwnFrom B (PX w) := by
  rintro s W W' row ⟨h0, h1, h2, h5⟩ hg hr
  have ne : ∀ k, k < B → some k ≠ row := fun k hk e => by have := (hr k e.symm).1; omega
  exact ⟨h0.grown hg (by omega) (fun k e => by have := (hr k e).1; omega), h1.kept hg (ne _ (by omega)), h2, Nat.le_trans h5 hg.size⟩
theorem PI_T (w : World) : StillT (Tb (w.heap.size + 1 + 1)) (PI w) := by
  rintro s A C ⟨v, rfl⟩ ⟨h0, h1, h2, h3, h4, h5⟩
  exact ⟨h0.setCell (p := ⟨_, 0, none⟩) (by simp only; omega) _, boxed_other h1 (by omega), boxed_other h2 (by omega), h3, h4, by simpa [World.setCell] using h5⟩
theorem PX_T (w : World) : StillT (Tb (w.heap.size + 1 + 1)) (PX w) := by
  rintro s A C ⟨v, rfl⟩ ⟨h0, h1, h2, h5⟩
  exact ⟨h0.setCell (p := ⟨_, 0, none⟩) (by simp only; omega) _, boxed_other h1 (by omega), h2, by simpa [World.setCell] using h5⟩
theorem keeps_set {W : World} {g : Nat} {t : TypeId} {v u : Value} (hg : Boxed W g t v) : KeepsOthers W (W.setCell ⟨g, 0, none⟩ u) :=
  KeepsOthers.of_grownBy (row := some g) ⟨rfl, rfl, rfl, by simp [World.setCell], fun k _ hk => Below.heap_setCell _ _ _ _ (fun e => hk (by rw [e]))⟩ (fun j o e ho => by cases e; rw [show W.heap[g]? = _ from hg] at ho; cases ho; rfl)
theorem PX.bad {w W : World} {pre : List (List UInt8)} {p : List UInt8} (h : PX w pre W) (hp : pre <+: splitL p) : mayPathL p = false := by
  obtain ⟨t, ht⟩ := hp
  unfold mayPathL
  rcases h.2.2.1 with h | ⟨x, hx, hn⟩
  · rw [decide_eq_false (by rw [← ht, List.length_append]; omega)]; rfl
  · have : (splitL p).all mayNameL = false := by
      rw [List.all_eq_false]
      exact ⟨x, by rw [← ht]; exact List.mem_append_left _ hx, by rw [hn]; decide⟩
    rw [this, Bool.and_false]
theorem PI.good {w W : World} {p : List UInt8} (h : PI w (splitL p) W) : mayPathL p = true := by
  unfold mayPathL
  rw [decide_eq_true h.2.2.2.1, Bool.true_and, List.all_eq_true]
  exact h.2.2.2.2.1
set_option maxRecDepth 100000 in
set_option maxHeartbeats 2000000 in
theorem mayPath_any (p : List UInt8) (hp : p.length ≤ 1000000) (w : World) : Calls Tryd.prog 33 #[strV p] w fun e w' => e = .returned (.bool (mayPathL p)) ∧ Below w.heap.size w w' := by
  obtain ⟨s, hs⟩ : ∃ x : ByteArray, Hid (x = ⟨p.toArray⟩) := ⟨_, Lib.hid rfl⟩
  have hv : strV p = .string s := by rw [hs.out]; rfl
  obtain ⟨b, hb⟩ : ∃ b, Hid (b = mayPathL p) := ⟨_, Lib.hid rfl⟩
  rw [← hb.out, hv]
  refine (callsIn_wide (n := 6)).1 ?_
  refine callsIn_of_wp_marks Tryd.func33 rfl trivial ?_ rfl
  simp only [Tryd.ntmps33, List.size_toArray, List.length_cons, List.length_nil, Nat.reduceAdd, Nat.reduceSub, Array.replicate_succ, Array.replicate_zero, List.push_toArray, List.append_toArray, List.nil_append, List.cons_append]
  gi_wp2_with (refine ⟨trivial, ?_⟩; gi_at_call 50; refine (splitseq_in _ _ _).mono ?_; rintro e w' ⟨rfl, rfl⟩)
  obtain ⟨W0, hW0⟩ : ∃ W0, W0 = ((((w.alloc (Obj.cells #[Value.bool false] 4)).alloc (Obj.cells #[Value.int IntKind.i64 0] 3)).alloc (Obj.cells #[Value.string s] 9)).alloc (Obj.cells #[Value.string { data := #[47] }] 9)).alloc (Obj.cells #[Value.int IntKind.i64 0] 3) := ⟨_, rfl⟩
  have hI0 : PI w [] W0 := by
    rw [hW0]
    refine ⟨(((((Below.refl _ w).alloc (Nat.le_refl _) _).alloc (by simp) _).alloc (by simp; omega) _).alloc (by simp; omega) _).alloc (by simp; omega) _, ((((Boxed.new w 4 _).alloc _).alloc _).alloc _).alloc _, ?_, by simp, by simp, by simp⟩
    have h := Boxed.new (w.alloc (Obj.cells #[Value.bool false] 4)) 3 (.int .i64 0)
    simp only [World.size_alloc] at h
    exact ((h.alloc _).alloc _).alloc _
  have hB3 : Bx3 (w.heap.size + 1 + 1) (w.heap.size + 1 + 1 + 1) (w.heap.size + 1 + 1 + 1 + 1) p W0 := by
    rw [hW0, Bx3, hv]
    refine ⟨?_, ?_, ?_⟩
    · have h := Boxed.new ((w.alloc (Obj.cells #[Value.bool false] 4)).alloc (Obj.cells #[Value.int IntKind.i64 0] 3)) 9 (.string s)
      simp only [World.size_alloc] at h
      exact (h.alloc _).alloc _
    · have h := Boxed.new (((w.alloc (Obj.cells #[Value.bool false] 4)).alloc (Obj.cells #[Value.int IntKind.i64 0] 3)).alloc (Obj.cells #[Value.string s] 9)) 9 (.string { data := #[47] })
      simp only [World.size_alloc] at h
      exact h.alloc _
    · have h := Boxed.new ((((w.alloc (Obj.cells #[Value.bool false] 4)).alloc (Obj.cells #[Value.int IntKind.i64 0] 3)).alloc (Obj.cells #[Value.string s] 9)).alloc (Obj.cells #[Value.string { data := #[47] }] 9)) 3 (.int .i64 0)
      simp only [World.size_alloc] at h
      exact h
  rw [← hW0]
  have HI0 := Lib.hid hI0
  have HB3 := Lib.hid hB3
  have hsz : w.heap.size + 5 ≤ W0.heap.size := hI0.2.2.2.2.2
  have HMN : Hid (∀ (x : List UInt8) w, Calls Tryd.prog 17 #[strV x] w fun e w' => e = .returned (.bool (mayNameL x)) ∧ w' = w) := Lib.hid (fun x w => pmayName_any ⟨x.toArray⟩ w)
  clear hI0 hB3 hW0
  refine wpIn_range_T (Tb (w.heap.size + 1 + 1)) rfl (by omega) (gf := 76) (lb := #[.pointer (some ⟨w.heap.size + 1 + 1 + 1, 0, none⟩), .pointer (some ⟨w.heap.size + 1 + 1, 0, none⟩), .pointer (some ⟨w.heap.size + 1 + 1 + 1 + 1, 0, none⟩)]) rfl trivial (enters_of Tryd.func76 (by kernel_rfl) rfl) (split_stops 5 (w.heap.size + 1 + 1) (w.heap.size + 1 + 1 + 1) (w.heap.size + 1 + 1 + 1 + 1) p hp (by omega) (by omega) W0 HB3.out (by omega))
    (by rintro A C ⟨v, rfl⟩ k hk _; exact Below.heap_setCell _ _ _ _ (by simp only; omega))
    (fun h1 h2 => ⟨Eq.trans h2.1 h1.1, Eq.trans h2.2.1 h1.2.1, Eq.trans h2.2.2 h1.2.2⟩) (fun W l o o' hl ho hoc _ => ⟨World.putObj_heap_other (by omega), World.putObj_heap_other (by omega), World.putObj_heap_other (by omega)⟩) (Below.refl _ _) (fun _ => rfl)
    (PI w) (fun c pre W => c = .ret ∧ PX w pre W) (PI_own w _ (by omega)) (fun c s W W' row hs hg hr => ⟨hs.1, PX_own w _ (by omega) s W W' row hs.2 hg hr⟩) (PI_T w) (fun c s A C ht hs => ⟨hs.1, PX_T w s A C ht hs.2⟩) HI0.out
    (fun (x : List UInt8) => { tmps := #[.string s, undef, .pointer (some ⟨w.heap.size, 0, none⟩), .pointer (some ⟨w.heap.size + 1, 0, none⟩), strV x, .string s, .func (.func 76) #[] #[.pointer (some ⟨w.heap.size + 1 + 1 + 1, 0, none⟩), .pointer (some ⟨w.heap.size + 1 + 1, 0, none⟩), .pointer (some ⟨w.heap.size + 1 + 1 + 1 + 1, 0, none⟩)], strV x, undef, undef, undef, undef, undef, undef, undef, undef, undef], defers := [] })
    ?assign ?body ?done ?stop
  case assign =>
    intro l x W K hK
    unfold encS
    gi_wp2
    exact hK
  case stop =>
    rintro D c pre W hD hpre ⟨rfl, h⟩ hDf
    have hz : b = false := by rw [hb.out]; exact h.bad hpre
    gi_wp2
    refine ⟨by simp, .inl ⟨_, _, rfl, run_takeDeferred hDf, ?_⟩⟩
    have h2 : PX w pre (W.putObj D (.deferred none)) := ⟨h.1.trans (belowK_b (w := w) (Nat.le_refl _) W D _ _ (by omega) hDf rfl rfl), Eq.trans (World.putObj_heap_other (by omega)) h.2.1, h.2.2.1, by simpa using h.2.2.2⟩
    exact ⟨_, results_cell1 rfl _ _ _ ⟨w.heap.size, 0, none⟩ rfl _ (load4 h2.2.1), by rw [hz], h2.1⟩
  case done =>
    rintro D xs W hD rfl h hDf
    have hz : b = true := by rw [hb.out]; exact h.good
    have c2 := h.2.1.cell
    have g2 := h.2.1.frozen
    have H := Lib.hid h
    have HD := Lib.hid hDf
    clear h hDf
    gi_wp2_with (refine ⟨trivial, ?_⟩)
    have HD2 : Hid ((W.setCell ⟨w.heap.size, 0, none⟩ (.bool true)).heap[D]? = some (.deferred (some []))) := Lib.hid ((Below.heap_setCell _ _ _ _ (by simp only; omega)).trans HD.out)
    refine ⟨by simp, .inl ⟨_, _, rfl, run_takeDeferred HD2.out, ?_⟩⟩
    have h2 := H.out.2.1.set (.bool true)
    have h3 : Boxed ((W.setCell ⟨w.heap.size, 0, none⟩ (.bool true)).putObj D (.deferred none)) w.heap.size 4 (.bool true) := Eq.trans (World.putObj_heap_other (by omega)) h2
    exact ⟨_, results_cell1 rfl _ _ _ ⟨w.heap.size, 0, none⟩ rfl _ (load4 h3), by rw [hz], (H.out.1.setCell (p := ⟨_, 0, none⟩) (Nat.le_refl _) _).trans (belowK_b (w := w) (Nat.le_refl _) _ D _ _ (by omega) HD2.out rfl rfl)⟩
  case body =>
    rintro l pre x W ⟨h0, h1, h2, h3, h4, h5⟩ _
    have c3 := h2.cell
    have g3 := h2.frozen
    have hset : ∀ v, KpS (w.heap.size + 1 + 1) (w.heap.size + 1 + 1 + 1) (w.heap.size + 1 + 1 + 1 + 1) W (W.setCell ⟨w.heap.size + 1, 0, none⟩ v) := fun v => ⟨Below.heap_setCell _ _ _ _ (by simp only; omega), Below.heap_setCell _ _ _ _ (by simp only; omega), Below.heap_setCell _ _ _ _ (by simp only; omega)⟩
    obtain ⟨V, hV⟩ : ∃ V, V = W.setCell ⟨w.heap.size + 1, 0, none⟩ (.int .i64 ((pre.length : Int) + 1)) := ⟨_, rfl⟩
    have hk : KeepsOthers W V := by rw [hV]; exact keeps_set h2
    have hkp : KpS (w.heap.size + 1 + 1) (w.heap.size + 1 + 1 + 1) (w.heap.size + 1 + 1 + 1 + 1) W V := by rw [hV]; exact hset _
    have hc : Boxed V (w.heap.size + 1) 3 (.int .i64 (((pre ++ [x]).length : Nat) : Int)) := by
      rw [hV, List.length_append]; exact h2.set _
    have hf : Boxed V w.heap.size 4 (.bool false) := by rw [hV]; exact boxed_other h1 (by omega)
    have hbl : Below w.heap.size w V := by rw [hV]; exact h0.setCell (p := ⟨_, 0, none⟩) (by simp only; omega) _
    have hvs : w.heap.size + 5 ≤ V.heap.size := by rw [hV]; simpa [World.setCell] using h5
    have d3 : V.cell? ⟨w.heap.size + 1, 0, none⟩ = some (.int .i64 ((pre.length : Int) + 1)) := by rw [hc.cell, List.length_append]; rfl
    have d2 := hf.cell
    have e2 := hf.frozen
    have hret : Boxed (V.setCell ⟨w.heap.size, 0, none⟩ (.bool false)) w.heap.size 4 (.bool false) := hf.set _
    have hkr : KeepsOthers W (V.setCell ⟨w.heap.size, 0, none⟩ (.bool false)) := hk.trans (keeps_set hf)
    have hbr : Below w.heap.size w (V.setCell ⟨w.heap.size, 0, none⟩ (.bool false)) := hbl.setCell (p := ⟨_, 0, none⟩) (Nat.le_refl _) _
    have hsr : w.heap.size + 5 ≤ (V.setCell ⟨w.heap.size, 0, none⟩ (.bool false)).heap.size := by simpa [World.setCell] using hvs
    have HR := Lib.hid hret
    have HKR := Lib.hid hkr
    have HBR := Lib.hid hbr
    have HV := Lib.hid hV
    have HKP := Lib.hid hkp
    have HK := Lib.hid hk
    have HC := Lib.hid hc
    have HF := Lib.hid hf
    have HBL := Lib.hid hbl
    clear hret hkr hbr hV hkp hk hc hf hbl hset h0 h1 h2 HI0 HB3
    by_cases hn : 64 < pre.length + 1
    · have hnI : (pre.length : Int) + 1 > 64 := by omega
      gi_wp2
      rw [← HV.out]
      gi_wp2
      refine ⟨trivial, ?_⟩
      gi_wp2
      exact ⟨HKR.out, rfl, HBR.out, HR.out, .inl (by rw [List.length_append]; exact hn), hsr⟩
    · have hnI : ¬ (pre.length : Int) + 1 > 64 := by omega
      gi_wp2
      rw [← HV.out]
      gi_wp2
      refine ⟨trivial, ?_⟩
      refine (CallsIn.inRound l (callsIn_wide.2 (HMN.out x V))).mono ?_
      rintro e W1 ⟨rfl, rfl⟩
      cases hm : mayNameL x with
      | false =>
        gi_wp2
        exact ⟨HKR.out, rfl, HBR.out, HR.out, .inr ⟨x, by simp, hm⟩, hsr⟩
      | true =>
        gi_wp2
        refine ⟨HK.out, HKP.out, HBL.out, HF.out, HC.out, by rw [List.length_append]; simp; omega, ?_, hvs⟩
        intro y hy
        rcases List.mem_append.1 hy with h | h
        · exact h4 y h
        · obtain rfl : y = x := by simpa using h
          exact hm
end Go.Proofs.YtgbaaiedpiiepaaDoor
/- May of the document: whether nodes are a tree. Its condition: lengths that fit. -/
namespace Go.Proofs.YtgbaaiedpiiepaaDoor
open Go.RowKit Go.Shelf
set_option linter.unusedVariables false
set_option linter.unusedSimpArgs false
set_option maxRecDepth 100000 in
set_option maxHeartbeats 1000000 in
theorem may_nil (a : Option Addr) (cap : Nat) (w : World) : Calls Tryd.prog 15 #[.slice a 0 cap] w fun e w' => e = .returned (.bool false) ∧ w' = w := by
  go_enter Tryd.func15, Tryd.ntmps15
  go_wp2_with fail
  go_ret
  exact ⟨rfl, rfl⟩
theorem cut_len (p : List UInt8) : (cutL p).2.length ≤ p.length := by
  unfold cutL
  split
  · rw [List.length_reverse]
    exact Nat.le_trans (List.takeWhile_sublist _).length_le (by rw [List.length_reverse]; exact Nat.le_refl _)
  · exact Nat.le_refl _
set_option maxRecDepth 100000 in
set_option maxHeartbeats 2000000 in
theorem may_pos (b o cap : Nat) (d : Nd) (r : List Nd) (hl : r.length + 1 ≤ 100000) (hp : ∀ c ∈ d :: r, c.path.length ≤ 1000000) (hd : ∀ c ∈ d :: r, c.data.length ≤ 1000000) (w : World) (hN : Nodes w b o (d :: r)) :
    Calls Tryd.prog 15 #[slV b o (r.length + 1) cap] w fun e w' => e = .returned (.bool (mayL (d :: r))) ∧ Below w.heap.size w w' := by
  have HN := Lib.hid hN
  clear hN
  obtain ⟨B, hB⟩ : ∃ B, Hid (B = mayL (d :: r)) := ⟨_, Lib.hid rfl⟩
  rw [← hB.out]
  have hBe : Hid (B = (decide (r.length + 1 ≤ 256) && decide (d.path = []) && mayDataL d && r.all (fun c => mayNameL (cutL c.path).2 && decide (deepL c.path ≤ 64) && mayDataL c) && decide ((restU (fuelN r) d r).length = 0))) := Lib.hid (by rw [hB.out]; rfl)
  obtain ⟨n, hn⟩ : ∃ n, Hid (n = r.length) := ⟨_, Lib.hid rfl⟩
  rw [← hn.out] at hl ⊢
  have c0 := (HN.out.2 0 (by simp)).1
  have c1 := (HN.out.2 0 (by simp)).2.1
  have c2 := (HN.out.2 0 (by simp)).2.2
  simp only [List.getElem_cons_zero, Nat.zero_mul, Nat.add_zero] at c0 c1 c2
  obtain ⟨P, hP⟩ : ∃ x : ByteArray, Hid (x = ⟨d.path.toArray⟩) := ⟨_, Lib.hid rfl⟩
  obtain ⟨D, hD⟩ : ∃ x : ByteArray, Hid (x = ⟨d.data.toArray⟩) := ⟨_, Lib.hid rfl⟩
  rw [show strV d.path = .string P by rw [hP.out]; rfl] at c0
  rw [show strV d.data = .string D by rw [hD.out]; rfl] at c2
  have HM : Hid (∀ w, Calls Tryd.prog 35 #[.agg #[.string P, .int .i64 d.kind, .string D]] w fun e w' => e = .returned (.bool (mayDataL d)) ∧ Below w.heap.size w w') := Lib.hid (fun w => by
    have h := mayData_any d (hp d (by simp)) (hd d (by simp)) w
    rw [show ndV d = #[.string P, .int .i64 d.kind, .string D] by rw [hP.out, hD.out]; rfl] at h
    exact h)
  have HLp : Hid (∀ k (hk : k < r.length), r[k].path.length ≤ 1000000 ∧ r[k].data.length ≤ 1000000) := Lib.hid (fun k hk => ⟨hp _ (by simp), hd _ (by simp)⟩)
  have HU : Hid (∀ w, Nodes w b o (d :: r) → Calls Tryd.prog 38 #[slV b o (n + 1) cap, .int .i64 0] w fun e w' => e = .returned (.int .i64 ((n + 1 - (restU (fuelN r) d r).length : Nat) : Int)) ∧ Below w.heap.size w w') := Lib.hid (fun w hw => by
    have h := under_any b o cap (d :: r) (by have := hn.out; simp only [List.length_cons]; omega) hp (r.length + 1) 0 (by simp) (by simp) w hw
    have e : underP (d :: r) 0 (by simp) = n + 1 - (restU (fuelN r) d r).length := by
      show r.length + 1 - (restU (fuelN r) d r).length = _
      rw [hn.out]
    rw [e] at h
    have e2 : (d :: r).length = n + 1 := by rw [List.length_cons, ← hn.out]
    rw [e2] at h
    exact h)
  unfold slV at HU ⊢
  have hI1 : ¬ (n : Int) + 1 < 1 := by omega
  have BW : ∀ {w2 : World}, Below w.heap.size w w2 → Below w.heap.size w w2 := fun h => h
  by_cases h256 : n + 1 ≤ 256
  · have hI2 : ¬ (256 : Int) < (n : Int) + 1 := by omega
    rw [decide_eq_true (show r.length + 1 ≤ 256 by rw [← hn.out]; exact h256), Bool.true_and] at hBe
    by_cases hpath : d.path = []
    · rw [decide_eq_true hpath, Bool.true_and] at hBe
      have hPe : P.toList = [] := by rw [ByteArray.toList_eq, hP.out, hpath]
      have hPe2 : P.toList.isEmpty = true := by rw [hPe]; rfl
      clear hpath
      go_enter Tryd.func15, Tryd.ntmps15
      go_wp2_with fail
      with_reducible refine (HM.out _).mono ?_
      rintro e w2 ⟨rfl, hb⟩
      have HB2 := Lib.hid hb
      clear hb HM
      cases hmd : mayDataL d
      · rw [hmd, Bool.false_and, Bool.false_and] at hBe
        go_wp2_with fail
        go_ret
        exact ⟨by rw [hBe.out]; rfl, HB2.out⟩
      · rw [hmd, Bool.true_and] at hBe
        go_wp2_with fail
        clear c0 c1 c2 hPe hPe2
        go_loopw [3] (fun x wr => ∃ k : Nat, 1 ≤ k ∧ k ≤ n + 1 ∧ x = .int .i64 (k : Int) ∧ (r.take (k - 1)).all (fun c => mayNameL (cutL c.path).2 && decide (deepL c.path ≤ 64) && mayDataL c) = true ∧ Below w.heap.size w wr) (fun x _ => n + 1 - (intOf x).toNat)
        case atStart => exact ⟨1, by omega, by omega, rfl, by simp, HB2.out⟩
        case round =>
          clear HB2
          obtain ⟨k, hk1, hk, rfl, hall, hb⟩ := hrel
          have HALL := Lib.hid hall
          have HBr := Lib.hid hb
          clear hall hb
          by_cases hlt : k < n + 1
          · have hltI : (k : Int) < (n : Int) + 1 := by omega
            have HNr := Lib.hid (HN.out.below (W2 := wr) HBr.out)
            have hkr : k - 1 < r.length := by have := hn.out; omega
            have hkl : k < (d :: r).length := by rw [List.length_cons]; omega
            obtain ⟨c, hc⟩ : ∃ c, Hid (c = r[k - 1]) := ⟨_, Lib.hid rfl⟩
            have hget : (d :: r)[k] = c := by
              rw [hc.out]
              obtain ⟨j, rfl⟩ : ∃ j, k = j + 1 := ⟨k - 1, by omega⟩
              rfl
            have c0 := (HNr.out.2 k hkl).1
            have c1 := (HNr.out.2 k hkl).2.1
            have c2 := (HNr.out.2 k hkl).2.2
            rw [hget] at c0 c1 c2
            have hcl := HLp.out (k - 1) hkr
            rw [← hc.out] at hcl
            obtain ⟨A, hA⟩ : ∃ x : ByteArray, Hid (x = ⟨c.path.toArray⟩) := ⟨_, Lib.hid rfl⟩
            obtain ⟨E, hE⟩ : ∃ x : ByteArray, Hid (x = ⟨c.data.toArray⟩) := ⟨_, Lib.hid rfl⟩
            obtain ⟨X, hX⟩ : ∃ x : ByteArray, Hid (x = ⟨(cutL c.path).1.toArray⟩) := ⟨_, Lib.hid rfl⟩
            obtain ⟨Y, hY⟩ : ∃ x : ByteArray, Hid (x = ⟨(cutL c.path).2.toArray⟩) := ⟨_, Lib.hid rfl⟩
            rw [show strV c.path = .string A by rw [hA.out]; rfl] at c0
            rw [show strV c.data = .string E by rw [hE.out]; rfl] at c2
            have hAL : A.data.toList = c.path := by rw [hA.out]
            have hAs : A.size ≤ 1000000 := by rw [hA.out]; exact hcl.1
            have H36 : Hid (∀ w, Calls Tryd.prog 36 #[.string A] w fun e w' => e = .returned (.tuple #[.string X, .string Y]) ∧ Below w.heap.size w w') := Lib.hid (fun w => by
              have h := cut_any A hAs w
              rw [hAL] at h
              rw [hX.out, hY.out]
              exact h)
            have hYs : Y.size ≤ 1000000 := by
              rw [hY.out]
              exact Nat.le_trans (cut_len c.path) hcl.1
            have H18 : Hid (∀ w, Calls Tryd.prog 18 #[.string Y] w fun e w' => e = .returned (.bool (mayNameL (cutL c.path).2)) ∧ w' = w) := Lib.hid (fun w => by
              have h := mayName_any Y hYs w
              rw [show Y.data.toList = (cutL c.path).2 by rw [hY.out]] at h
              exact h)
            have H37 : Hid (∀ w, Calls Tryd.prog 37 #[.string A] w fun e w' => e = .returned (.int .i64 (deepL c.path : Int)) ∧ w' = w) := Lib.hid (fun w => by
              have h := deep_any A hAs w
              rw [hAL] at h
              exact h)
            have H35 : Hid (∀ w, Calls Tryd.prog 35 #[.agg #[.string A, .int .i64 c.kind, .string E]] w fun e w' => e = .returned (.bool (mayDataL c)) ∧ Below w.heap.size w w') := Lib.hid (fun w => by
              have h := mayData_any c hcl.1 hcl.2 w
              rw [show ndV c = #[.string A, .int .i64 c.kind, .string E] by rw [hA.out, hE.out]; rfl] at h
              exact h)
            have hbad : Hid ((mayNameL (cutL c.path).2 && decide (deepL c.path ≤ 64) && mayDataL c) = false → B = false) := Lib.hid (fun h => by
              rw [hBe.out]
              have : r.all (fun c => mayNameL (cutL c.path).2 && decide (deepL c.path ≤ 64) && mayDataL c) = false := by
                rw [List.all_eq_false]
                exact ⟨c, by rw [hc.out]; exact List.getElem_mem _, by simpa using h⟩
              rw [this, Bool.false_and])
            have hgood : Hid ((mayNameL (cutL c.path).2 && decide (deepL c.path ≤ 64) && mayDataL c) = true → (r.take (k + 1 - 1)).all (fun c => mayNameL (cutL c.path).2 && decide (deepL c.path ≤ 64) && mayDataL c) = true) := Lib.hid (fun h => by
              rw [show k + 1 - 1 = (k - 1) + 1 by omega, List.take_add_one, List.getElem?_eq_getElem hkr, List.all_append, HALL.out, ← hc.out, Bool.true_and]
              simpa using h)
            clear hA hE hX hY hAL hAs hYs hcl hget hc hkl hkr
            go_wp2_with fail
            with_reducible refine (H36.out _).mono ?_
            rintro e w3 ⟨rfl, hb⟩
            have HB3 := Lib.hid (HBr.out.trans (hb.mono HBr.out.size))
            have c0b := (hb.cell (Nat.lt_of_lt_of_le HN.out.1 HBr.out.size)).trans c0
            have c1b := (hb.cell (Nat.lt_of_lt_of_le HN.out.1 HBr.out.size)).trans c1
            have c2b := (hb.cell (Nat.lt_of_lt_of_le HN.out.1 HBr.out.size)).trans c2
            clear hb HBr c0 c1 c2
            go_wp2_with fail
            with_reducible refine (H18.out _).mono ?_
            rintro e w4 ⟨rfl, rfl⟩
            cases m1 : mayNameL (cutL c.path).2
            · have hz := hbad.out (by rw [m1]; rfl)
              go_wp2_with fail
              go_ret
              exact ⟨by rw [hz]; rfl, HB3.out⟩
            · go_wp2_with fail
              with_reducible refine (H37.out _).mono ?_
              rintro e w5 ⟨rfl, rfl⟩
              by_cases m2 : deepL c.path ≤ 64
              · have m2I : ¬ (deepL c.path : Int) > 64 := by omega
                go_wp2_with fail
                with_reducible refine (H35.out _).mono ?_
                rintro e w6 ⟨rfl, hb⟩
                have HB4 := Lib.hid (HB3.out.trans (hb.mono HB3.out.size))
                clear hb
                cases m3 : mayDataL c
                · have hz := hbad.out (by rw [m3, Bool.and_false])
                  go_wp2_with fail
                  go_ret
                  exact ⟨by rw [hz]; rfl, HB4.out⟩
                · have hz := hgood.out (by rw [m1, m3, decide_eq_true m2]; rfl)
                  have f1 : n + 1 - (k + 1) < n + 1 - k := by omega
                  go_wp2_with fail
                  go_roundw
                  case rel => exact ⟨k + 1, by omega, by omega, by first | rfl | simp | go_num, hz, HB4.out⟩
                  case measure => simp [intOf] <;> omega
              · have m2I : (deepL c.path : Int) > 64 := by omega
                have hz := hbad.out (by rw [decide_eq_false m2, Bool.and_false, Bool.false_and])
                go_wp2_with fail
                go_ret
                exact ⟨by rw [hz]; rfl, HB3.out⟩
          · obtain rfl : k = n + 1 := by omega
            have hltI : ¬ ((n + 1 : Nat) : Int) < (n : Int) + 1 := by omega
            have HNr := Lib.hid (HN.out.below (W2 := wr) HBr.out)
            have hz : Hid (B = decide ((restU (fuelN r) d r).length = 0)) := Lib.hid (by
              have h := HALL.out
              rw [List.take_of_length_le (by have := hn.out; omega)] at h
              rw [hBe.out, h, Bool.true_and])
            have hrl : Hid ((restU (fuelN r) d r).length ≤ n) := Lib.hid (by rw [hn.out]; exact (rest_len _).1 _ _)
            obtain ⟨R, hR⟩ : ∃ R, R = (restU (fuelN r) d r).length := ⟨_, rfl⟩
            rw [← hR] at hz hrl HU
            clear hR
            go_wp2_with fail
            with_reducible refine (HU.out _ HNr.out).mono ?_
            rintro e w3 ⟨rfl, hb⟩
            have HB3 := Lib.hid (HBr.out.trans (hb.mono HBr.out.size))
            clear hb HBr
            by_cases h0 : R = 0
            · have hq : ((n + 1 - R : Nat) : Int) = (n : Int) + 1 := by omega
              rw [decide_eq_true h0] at hz
              rw [hq]
              go_wp2_with fail
              go_ret
              exact ⟨by rw [hz.out]; rfl, HB3.out⟩
            · have hq : ¬ ((n + 1 - R : Nat) : Int) = (n : Int) + 1 := by have := hrl.out; omega
              rw [decide_eq_false h0] at hz
              generalize ((n + 1 - R : Nat) : Int) = V at *
              have hq2 : (V == (n : Int) + 1) = false := by simpa using hq
              go_wp2_with fail
              go_ret
              exact ⟨by rw [hz.out, ← hq2]; rfl, HB3.out⟩
    · rw [decide_eq_false hpath, Bool.false_and, Bool.false_and, Bool.false_and] at hBe
      have hPe : ¬ P.toList = [] := by rw [ByteArray.toList_eq, hP.out]; exact hpath
      have hPe2 : P.toList.isEmpty = false := by
        cases h : P.toList with
        | nil => exact absurd h hPe
        | cons => rfl
      clear hpath
      go_enter Tryd.func15, Tryd.ntmps15
      go_wp2_with fail
      go_ret
      exact ⟨by rw [hBe.out]; rfl, Below.refl _ _⟩
  · have hI2 : (256 : Int) < (n : Int) + 1 := by omega
    rw [decide_eq_false (show ¬ r.length + 1 ≤ 256 by rw [← hn.out]; exact h256), Bool.false_and, Bool.false_and, Bool.false_and, Bool.false_and] at hBe
    go_enter Tryd.func15, Tryd.ntmps15
    go_wp2_with fail
    go_ret
    exact ⟨by rw [hBe.out]; rfl, Below.refl _ _⟩
end Go.Proofs.YtgbaaiedpiiepaaDoor
