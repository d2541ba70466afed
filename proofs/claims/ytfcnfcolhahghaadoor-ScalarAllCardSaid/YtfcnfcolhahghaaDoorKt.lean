/- Which rows lie where, of any type; a store as one step of a region that draws its order. No condition. -/
import Derived.Test.YtfcnfcolhahghaaDoorHalves
namespace Go.Proofs.YtfcnfcolhahghaaDoor
open Go.RowKit Go.Shelf
set_option linter.unusedVariables false
set_option linter.unusedSimpArgs false
section
variable {P : Program} {ops : Array Oper} {Q : Exit → Act → World → Prop} {md : Region.Mode} {S : World → Prop} {f n : Nat} {listed : Array Bool} {a : Act} {w w2 : World} {rs : List Nat}
theorem ReadyF.op0 {i : Nat} (opr : Op) (ho : (ops[i]?).map (fun o => (o.dst, o.op, o.guard)) = some (none, opr, none))
    (hrun : ∀ o : Oper, o.op = opr → (execOp a.eval o).run P w = .ok .skip w2) (hS : S w2) (h : AnyF P md ops Q S f n (listed.setIfInBounds i true) a w2)
    (hs : ReadyF P md ops Q S f n listed a w rs) (hif : i ≠ f := by decide) : ReadyF P md ops Q S f n listed a w (i :: rs) := by
  cases hq : ops[i]? with
  | none => simp [hq] at ho
  | some o =>
    simp [hq] at ho
    obtain ⟨hd, rfl, hg⟩ := ho
    refine ReadyF.cons hq hg (fun K hK => ?_) hs
    unfold Oper.wp
    rw [hrun o rfl]
    have : a.put o.dst undef = a := by rw [hd]; rfl
    have h2 : K a w2 := hK _ _ ⟨fun _ => ⟨hS, h⟩, fun e => absurd e hif⟩
    rw [← this] at h2
    exact h2
end
/-- Since w0 nothing that lay has turned; these blocks hold these rows. -/
def Kt (w0 : World) (l : List (Nat × Array Value × TypeId)) (w : World) : Prop := Below w0.heap.size w0 w ∧ ∀ p ∈ l, w.heap[p.1]? = some (.cells p.2.1 p.2.2 (0, 0))
theorem Kt.get {w0 w : World} {l : List (Nat × Array Value × TypeId)} (h : Kt w0 l w) (g : Nat) (A : Array Value) (t : TypeId) (hm : (g, A, t) ∈ l) : w.heap[g]? = some (.cells A t (0, 0)) := h.2 (g, A, t) hm
theorem Kt.lt {w0 w : World} {l : List (Nat × Array Value × TypeId)} (h : Kt w0 l w) (g : Nat) (A : Array Value) (t : TypeId) (hm : (g, A, t) ∈ l) : g < w.heap.size := (Array.getElem?_eq_some_iff.1 (h.get g A t hm)).1
theorem Kt.below {w0 w w2 : World} {l : List (Nat × Array Value × TypeId)} (h : Kt w0 l w) (hb : Below w.heap.size w w2) : Kt w0 l w2 :=
  ⟨h.1.trans (hb.mono h.1.size), fun p hp => (hb.block p.1 (Array.getElem?_eq_some_iff.1 (h.2 p hp)).1).trans (h.2 p hp)⟩
theorem Kt.drew {w0 w : World} {l : List (Nat × Array Value × TypeId)} (h : Kt w0 l w) : Kt w0 l w.drew := ⟨h.1.drew, h.2⟩
theorem Kt.alloc {w0 w : World} {l : List (Nat × Array Value × TypeId)} (h : Kt w0 l w) (o : Obj) : Kt w0 l (w.alloc o) := h.below ((Below.refl _ w).alloc (Nat.le_refl _) o)
theorem Kt.new {w0 w : World} {l : List (Nat × Array Value × TypeId)} (h : Kt w0 l w) (A : Array Value) (t : TypeId) : Kt w0 ((w.heap.size, A, t) :: l) (w.alloc (.cells A t)) :=
  ⟨(h.alloc _).1, fun p hp => by
    rcases List.mem_cons.1 hp with rfl | hp
    · exact heap_alloc_new w _
    · exact (h.alloc _).2 p hp⟩
theorem Kt.nil (w : World) : Kt w [] w := ⟨Below.refl _ _, fun p hp => by cases hp⟩
theorem Kt.sub {w0 w : World} {l m : List (Nat × Array Value × TypeId)} (h : Kt w0 l w) (hs : ∀ p ∈ m, p ∈ l) : Kt w0 m w := ⟨h.1, fun p hp => h.2 p (hs p hp)⟩
theorem Kt.add {w0 w : World} {l : List (Nat × Array Value × TypeId)} (h : Kt w0 l w) (g : Nat) (A : Array Value) (t : TypeId) (hg : w.heap[g]? = some (.cells A t (0, 0))) : Kt w0 ((g, A, t) :: l) w :=
  ⟨h.1, fun p hp => by
    rcases List.mem_cons.1 hp with rfl | hp
    · exact hg
    · exact h.2 p hp⟩
theorem Kt.app {w0 w : World} {l m : List (Nat × Array Value × TypeId)} (h : Kt w0 l w) (h2 : Kt w0 m w) : Kt w0 (l ++ m) w := ⟨h.1, fun p hp => (List.mem_append.1 hp).elim (h.2 p) (h2.2 p)⟩
/-- A store over a whole row. -/
theorem Kt.set {w0 w : World} {l m : List (Nat × Array Value × TypeId)} (h : Kt w0 l w) (g : Nat) (A B : Array Value) (t : TypeId) (hg : w.heap[g]? = some (.cells B t (0, 0))) (hw : w0.heap.size ≤ g) (hm : ∀ p ∈ m, p = (g, A, t) ∨ (p ∈ l ∧ p.1 ≠ g)) : Kt w0 m (w.setRow g A) :=
  ⟨h.1.trans ⟨rfl, rfl, rfl, by simp, fun k hk => setRow_other _ _ _ _ (by omega)⟩, fun p hp => by
    rcases hm p hp with rfl | ⟨h1, h2⟩
    · exact setRow_heap _ _ _ _ _ _ hg
    · exact (setRow_other _ _ _ _ h2).trans (h.2 p h1)⟩
/-- A store into one cell of a row of numbers. -/
theorem Kt.setw {w0 w : World} {l m : List (Nat × Array Value × TypeId)} (h : Kt w0 l w) (g : Nat) (t : TypeId) (kd : IntKind) (n : Nat) (f : Nat → Nat) (j v : Nat) (hg : Row w g t kd n f) (hw : w0.heap.size ≤ g) (hm : ∀ p ∈ m, p = (g, (rowOf kd n (upd f j v)).toArray, t) ∨ (p ∈ l ∧ p.1 ≠ g)) : Kt w0 m (w.setCell ⟨g, j, none⟩ (.int kd (v : Int))) :=
  ⟨h.1.setCell (p := ⟨g, j, none⟩) hw _, fun p hp => by
    rcases hm p hp with rfl | ⟨h1, h2⟩
    · exact hg.set j v
    · exact (heap_setCell_other _ _ _ _ h2).trans (h.2 p h1)⟩
theorem Kt.row {w0 w : World} {l : List (Nat × Array Value × TypeId)} (h : Kt w0 l w) (g : Nat) (t : TypeId) (kd : IntKind) (n : Nat) (f : Nat → Nat) (hm : (g, (rowOf kd n f).toArray, t) ∈ l) : Row w g t kd n f := h.2 _ hm
theorem Kt.cell {w0 w : World} {l : List (Nat × Array Value × TypeId)} (h : Kt w0 l w) (g : Nat) (A : Array Value) (t : TypeId) (hm : (g, A, t) ∈ l) (j : Nat) : w.cell? ⟨g, j, none⟩ = A[j]? := cell_of_row w g j A t (0, 0) (h.get g A t hm)
theorem Kt.free {w0 w : World} {l : List (Nat × Array Value × TypeId)} (h : Kt w0 l w) (g : Nat) (A : Array Value) (t : TypeId) (hm : (g, A, t) ∈ l) (j : Nat) : w.frozen? ⟨g, j, none⟩ = false := by
  unfold World.frozen?
  simp only [h.get g A t hm]
  simp
/-- A row whose words have turned into others'. -/
theorem Kt.ext {w0 w : World} {l m : List (Nat × Array Value × TypeId)} (h : Kt w0 l w) (g : Nat) (t : TypeId) (kd : IntKind) (n : Nat) (f f' : Nat → Nat) (hf : ∀ j, j < n → f j = f' j) (hm : ∀ p ∈ m, p ∈ l ∨ (p = (g, (rowOf kd n f').toArray, t) ∧ (g, (rowOf kd n f).toArray, t) ∈ l)) : Kt w0 m w :=
  ⟨h.1, fun p hp => by
    rcases hm p hp with h1 | ⟨rfl, h2⟩
    · exact h.2 p h1
    · rw [show (rowOf kd n f').toArray = (rowOf kd n f).toArray by rw [rowOf_ext hf]]
      exact h.2 _ h2⟩
end Go.Proofs.YtfcnfcolhahghaaDoor
