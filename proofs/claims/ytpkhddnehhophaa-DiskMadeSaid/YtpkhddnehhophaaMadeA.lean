/- What Asks wants: bytes as a text, frames, one more that is asked appended. No condition but what each law names. -/
import Derived.Test.YtpkhddnehhophaaRefI
import Derived.IntWalk
namespace Go.Proofs.Ytpkhddnehhophaa
open Go.RowKit
set_option linter.unusedVariables false

theorem frcell {W w1 : World} (h : Fr (fun _ => False) W w1) : ∀ b o, b < W.heap.size → w1.cell? ⟨b, o, none⟩ = W.cell? ⟨b, o, none⟩ := fun b o hb => World.cell?_of_block (w := W) (a := ⟨b, o, none⟩) (h.block b hb id)
theorem frfrozen {W w1 : World} (h : Fr (fun _ => False) W w1) : ∀ b o, b < W.heap.size → w1.frozen? ⟨b, o, none⟩ = W.frozen? ⟨b, o, none⟩ := fun b o hb => World.frozen?_of_block (w := W) (a := ⟨b, o, none⟩) (h.block b hb id)
/-- A slice of bytes that came in. -/
def BytesAt (w : World) (a : Option Addr) (len : Nat) (A : Nat → Nat) : Prop := ∀ j, j < len → A j ≤ 255 ∧ ∃ g off, a = some ⟨g, off, none⟩ ∧ w.cell? ⟨g, off + j, none⟩ = some (.int .u8 (A j))
/-- The numbers kept of one that is asked lie in a row of their own. -/
def NumRow (w : World) (x : AskV) : Prop := (x.p = none ∧ x.zs = []) ∨ ∃ g, x.p = some ⟨g, 0, none⟩ ∧ w.heap[g]? = some (.cells (x.zs.map (Value.int .i64)).toArray 3 (0, 0))
theorem nf_drew {N : Nat} {w W : World} (h : Fr (fun k => N ≤ k) w W) : Fr (fun k => N ≤ k) w W.drew := h.drew
theorem nf_alloc {N : Nat} {w W : World} (h : Fr (fun k => N ≤ k) w W) (o : Obj) : Fr (fun k => N ≤ k) w (W.alloc o) := h.alloc o
theorem nf_set {N m : Nat} {w W : World} (h : Fr (fun k => N ≤ k) w W) (hm : N ≤ m) (j : Nat) (v : Value) : Fr (fun k => N ≤ k) w (W.setCell ⟨m, j, none⟩ v) := Fr.setCell (S := fun k => N ≤ k) h (p := ⟨m, j, none⟩) hm v
theorem nf_call {N : Nat} {w W W1 : World} (h : Fr (fun k => N ≤ k) w W) (k : Fr (fun _ => False) W W1) : Fr (fun k => N ≤ k) w W1 := h.trans (k.mono (fun _ _ h => h.elim))
theorem bytes_str (W : World) (g o c : Nat) (x y z : Nat) (hx : x ≤ 255) (hy : y ≤ 255) (hz : z ≤ 255) (c0 : W.cell? ⟨g, o, none⟩ = some (.int .u8 x)) (c1 : W.cell? ⟨g, o + 1, none⟩ = some (.int .u8 y)) (c2 : W.cell? ⟨g, o + 2, none⟩ = some (.int .u8 z)) :
    (Go.convert 25 9 (.slice (some ⟨g, o, none⟩) 3 c)).run Try.prog W = .ok (.string ⟨#[UInt8.ofNat x, UInt8.ofNat y, UInt8.ofNat z]⟩) W := by
  refine run_convert_bytes_back W 25 9 5 ⟨g, o, none⟩ c [UInt8.ofNat x, UInt8.ofNat y, UInt8.ofNat z] Try.underlying25 Try.underlying5 Try.underlying9 (fun j hj => ?_)
  have hj3 : j < 3 := hj
  rw [addr_add]
  rcases (show j = 0 ∨ j = 1 ∨ j = 2 by omega) with rfl | rfl | rfl
  · rw [Nat.add_zero, c0]; simp [Nat.mod_eq_of_lt (show x < 256 by omega)]
  · rw [c1]; simp [Nat.mod_eq_of_lt (show y < 256 by omega)]
  · rw [c2]; simp [Nat.mod_eq_of_lt (show z < 256 by omega)]

theorem NumRow.kept {w w' : World} {x : AskV} (h : NumRow w x) {S : Nat → Prop} (hf : Fr S w w') (hS : ∀ g cs, w.heap[g]? = some (.cells cs 3 (0, 0)) → ¬ S g) : NumRow w' x := by
  rcases h with h | ⟨g, hp, hg⟩
  · exact Or.inl h
  · exact Or.inr ⟨g, hp, (hf.block g (Array.getElem?_eq_some_iff.1 hg).1 (hS g _ hg)).trans hg⟩
theorem info50 : (Try.prog.info? 50).map (fun i => (i.zero, i.size, i.bytes)) = some (some (.agg #[.int .i64 0, .int .i64 0, .int .i64 0, .string ByteArray.empty, .slice none 0 0]), 5, 64) := by kernel_rfl

/-- One more that is asked, appended. -/
theorem one_more {w wr Wq : World} {k : Nat} {pl : Option Addr} {cl : Nat} {A : Nat → AskV} {x : AskV} (hk : k < 50)
    (hown : wr.ownsRow w.heap.size 50 5 (.slice pl k cl) k ((List.range k).flatMap fun j => (A j).cells)) (hnum : ∀ j, j < k → (A j).Ok ∧ NumRow wr (A j)) (NF : Fr (fun k => w.heap.size ≤ k) w wr)
    (NQ : Fr (fun k => wr.heap.size ≤ k) wr Wq) (hx : x.Ok) (hxn : NumRow Wq x) :
    ∃ v' W3, (∀ (ρ : Operand → Value) (o : Oper) (s y : Operand), o.op = Op.call { callee := Callee.builtin Builtin.append, args := #[s, y], argTypes := #[22, 22] } → ρ s = .slice pl k cl → ρ y = .slice (some ⟨Wq.heap.size, 0, none⟩) 1 1 → (execOp ρ o).run Try.prog (Wq.alloc (.cells x.cells.toArray 50)) = .ok (.value v') W3) ∧
      (∃ p c, v' = .slice p (k + 1) c) ∧ W3.ownsRow w.heap.size 50 5 v' (k + 1) ((List.range (k + 1)).flatMap fun j => ((fun j => if j = k then x else A j) j).cells) ∧ (∀ j, j < k + 1 → ((fun j => if j = k then x else A j) j).Ok ∧ NumRow W3 ((fun j => if j = k then x else A j) j)) ∧ Fr (fun k => w.heap.size ≤ k) w W3 := by
  obtain ⟨i3, hi3, hz3, hs3, hb3⟩ := info_parts info50
  have hlt : ∀ j, (Value.slice pl k cl).ownBlock = some j → w.heap.size ≤ j ∧ j < wr.heap.size := fun j hj => hown.lt j hj
  have ho2 : Wq.ownsRow w.heap.size 50 5 (.slice pl k cl) k ((List.range k).flatMap fun j => (A j).cells) := own_fr hown NQ (fun j hj h => by have := hlt j hj; omega)
  have hsz := NF.size
  have hsz2 := NQ.size
  obtain ⟨v', W3, happ, hown', hgrow, hat⟩ := exec_append_own (P := Try.prog) (Wq.alloc (.cells x.cells.toArray 50)) w.heap.size 22 50 i3 _ 5 64 Try.underlying22 hi3 hz3 hs3 hb3 rfl (by decide) (.slice pl k cl) k _ (ho2.alloc _) ⟨Wq.heap.size, 0, none⟩ 1 1 x.cells rfl (by
    intro j u hu
    rw [addr_add, cell_of_row _ Wq.heap.size (0 + j) x.cells.toArray 50 (0, 0) (heap_alloc_new Wq _), Nat.zero_add, List.getElem?_toArray]
    exact hu) (ask_one x) (by unfold maxLen; omega) (by omega) (by simp; omega)
  have hF3 : Fr (fun j => (Value.slice pl k cl).ownBlock = some j) Wq W3 := by
    refine ⟨hgrow.os, hgrow.tape, hgrow.output, Nat.le_trans (by simp) hgrow.size, fun j hj hS => ?_⟩
    rw [hgrow.block j (by simp; omega) (fun e => hS e.symm), Below.heap_alloc _ _ _ hj]
  have hty : ∀ {W : World} (g : Nat) (cs : Array Value), W.ownsRow w.heap.size 50 5 (.slice pl k cl) k ((List.range k).flatMap fun j => (A j).cells) → W.heap[g]? = some (.cells cs 3 (0, 0)) → ¬ (Value.slice pl k cl).ownBlock = some g := by
    intro W g cs ho hg e
    rcases ho.2 with ⟨hv, -⟩ | ⟨g3, c3, cur3, hv, -, hh, -⟩
    · rw [hv] at e; simp [Value.ownBlock] at e
    · rw [hv] at e; simp [Value.ownBlock] at e; subst e; rw [hh] at hg; simp at hg
  refine ⟨v', W3, happ, ?_, ?_, ?_, ?_⟩
  · rcases hown'.2 with ⟨-, h0⟩ | ⟨g3, c3, cur3, hv, -⟩
    · omega
    · exact ⟨_, _, hv⟩
  · have e : (List.range (k + 1)).flatMap (fun j => ((fun j => if j = k then x else A j) j).cells) = ((List.range k).flatMap fun j => (A j).cells) ++ x.cells := by
      rw [List.range_succ, List.flatMap_append]
      congr 1
      · rw [List.flatMap_def, List.flatMap_def]
        congr 1
        apply List.map_congr_left
        intro j hj
        have : j < k := by simpa using hj
        show (if j = k then x else A j).cells = _
        rw [if_neg (by omega)]
      · simp
    rw [e]
    exact hown'
  · intro j hj
    show (if j = k then x else A j).Ok ∧ NumRow W3 (if j = k then x else A j)
    by_cases e : j = k
    · rw [if_pos e]
      exact ⟨hx, hxn.kept hF3 (fun g cs hg => hty g cs ho2 hg)⟩
    · rw [if_neg e]
      have h1 := hnum j (by omega)
      refine ⟨h1.1, (h1.2.kept NQ (fun g cs hg h => ?_)).kept hF3 (fun g cs hg => hty g cs ho2 hg)⟩
      have := (Array.getElem?_eq_some_iff.1 hg).1
      omega
  · exact (NF.trans (NQ.mono (fun j hj h => by omega))).trans (hF3.mono (fun j hj h => (hlt j h).1))

theorem flat_length (A : Nat → AskV) : ∀ k, ((List.range k).flatMap fun j => (A j).cells).length = k * 5
  | 0 => rfl
  | k + 1 => by
    rw [List.range_succ, List.flatMap_append, List.length_append, flat_length A k]
    show k * 5 + ([k].flatMap fun j => (A j).cells).length = _
    have : ([k].flatMap fun j => (A j).cells).length = 5 := by simp [AskV.cells]
    omega
theorem flat_get (A : Nat → AskV) (i j : Nat) (hj : j < 5) : ∀ k, i < k → ((List.range k).flatMap fun j => (A j).cells)[i * 5 + j]? = (A i).cells[j]?
  | 0, h => by omega
  | k + 1, h => by
    rw [List.range_succ, List.flatMap_append]
    by_cases e : i = k
    · subst e
      rw [List.getElem?_append_right (by rw [flat_length]; omega), flat_length, show i * 5 + j - i * 5 = j by omega]
      simp
    · rw [List.getElem?_append_left (by rw [flat_length]; omega)]
      exact flat_get A i j hj k (by omega)
theorem asks_of_own {w : World} {N k : Nat} {v : Value} {A : Nat → AskV} (hown : w.ownsRow N 50 5 v k ((List.range k).flatMap fun j => (A j).cells)) (hnum : ∀ j, j < k → (A j).Ok ∧ NumRow w (A j)) {pl : Option Addr} {cl : Nat} (hv : v = .slice pl k cl) : AsksIn w w.heap.size pl k A := by
  intro i hi
  rcases hown.2 with ⟨-, h0⟩ | ⟨g, cap, cur, hv2, hb, hg, -⟩
  · omega
  · rw [hv] at hv2
    simp only [Value.slice.injEq] at hv2
    obtain ⟨rfl, -, rfl⟩ := hv2
    subst hv
    obtain ⟨hok, hn⟩ := hnum i hi
    refine ⟨hok, g, 0, rfl, (Array.getElem?_eq_some_iff.1 hg).1, fun j u hu => ?_, ?_, ?_⟩
    · have hj : j < 5 := by
        have := (List.getElem?_eq_some_iff.1 hu).1
        simpa [AskV.cells] using this
      rw [Nat.zero_add, hown.cellAt (i * 5 + j) (by omega), flat_get A i j hj k hi]
      exact hu
    · intro j hj
      rcases hn with ⟨-, hz⟩ | ⟨g2, hp, hg2⟩
      · rw [hz] at hj; simp at hj
      · refine ⟨g2, 0, hp, ?_⟩
        rw [Nat.zero_add, cell_of_row _ _ _ _ _ _ hg2, List.getElem?_toArray, List.getElem?_map, List.getElem?_eq_getElem hj]; rfl
    · intro x hx hne
      rcases hn with ⟨-, hz⟩ | ⟨g2, hp, hg2⟩
      · exact absurd hz hne
      · rw [hp] at hx; cases hx; exact (Array.getElem?_eq_some_iff.1 hg2).1
/-- A slice of what is asked is told. -/
def AsksTold (w : World) (e : Ending) (w' : World) : Prop := ∃ pa k ca A, e = .returned (.slice pa k ca) ∧ k ≤ 50 ∧ AsksIn w' w'.heap.size pa k A ∧ Fr (fun _ => False) w w'
end Go.Proofs.Ytpkhddnehhophaa
