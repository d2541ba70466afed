/- What the document says of Get: a text if its last four bytes are its sum. No condition but the length that each law names. -/
import Derived.Test.YtmmgnjgnjgjhmaaGet

namespace Go.Proofs.Ytmmgnjgnjgjhmaa
open Go.RowKit
set_option linter.unusedVariables false

theorem load26 (w : World) (g : Nat) (x y : Value) (c0 : w.cell? ⟨g, 0, none⟩ = some x) (c1 : w.cell? ⟨g, 1, none⟩ = some y) : (loadVar 26 ⟨g, 0, none⟩).run Try.prog w = .ok (.agg #[x, y]) w := by
  refine run_loadVar_seg w 26 g 0 [x, y] _ (fun j v hv => ?_) Try.underlying26 rfl (by kernel_rfl)
  rcases (show j = 0 ∨ j = 1 ∨ 2 ≤ j by omega) with rfl | rfl | h
  · simp at hv; subst hv; exact c0
  · simp at hv; subst hv; exact c1
  · rw [List.getElem?_eq_none (by simpa using h)] at hv; cases hv

set_option maxRecDepth 100000 in
set_option maxHeartbeats 400000 in
theorem rget_few (s : ByteArray) (hs : s.size < 4) (w : World) :
    Calls Try.prog 10 #[.string s] w fun e w' => e = .returned (.agg #[.string ⟨#[]⟩, .bool false]) ∧ Below w.heap.size w w' := by
  have hd : decide ((s.size : Int) < 4) = true := by simp; omega
  have hd3 : (s.size : Int) < 4 := by omega
  have hb := Lib.hid ((Below.refl w.heap.size w).alloc (Nat.le_refl _) (.cells #[.string ⟨#[]⟩, .bool false] 26))
  go_enter Try.func10, Try.ntmps10
  go_wp2
  exact bodyPost_ret (v := .agg #[.string ⟨#[]⟩, .bool false]) (results_cell rfl _ _ _ ⟨w.heap.size, 0, none⟩ rfl _ (load26 _ _ _ _ (by rw [cell_of_row _ _ _ _ _ _ (heap_alloc_new w _)]; rfl) (by rw [cell_of_row _ _ _ _ _ _ (heap_alloc_new w _)]; rfl))) rfl ⟨rfl, hb.out⟩

theorem said_cells {w w1 : World} (hb : Below (w.heap.size + 1) (w.alloc (.cells #[.string ⟨#[]⟩, .bool false] 26)) w1) :
    w1.cell? ⟨w.heap.size, 0, none⟩ = some (.string ⟨#[]⟩) ∧ w1.cell? ⟨w.heap.size, 1, none⟩ = some (.bool false) ∧ w1.frozen? ⟨w.heap.size, 0, none⟩ = false ∧ w1.frozen? ⟨w.heap.size, 1, none⟩ = false ∧ Below w.heap.size w w1 ∧ w1.heap[w.heap.size]? = some (.cells #[.string ⟨#[]⟩, .bool false] 26 (0, 0)) := by
  have hg : w1.heap[w.heap.size]? = some (.cells #[.string ⟨#[]⟩, .bool false] 26 (0, 0)) := (hb.block _ (by omega)).trans (heap_alloc_new w _)
  refine ⟨?_, ?_, ?_, ?_, ?_, hg⟩
  · rw [cell_of_row _ _ _ _ _ _ hg]; rfl
  · rw [cell_of_row _ _ _ _ _ _ hg]; rfl
  · exact frozen_of_row _ _ _ _ _ hg
  · exact frozen_of_row _ _ _ _ _ hg
  · exact ((Below.refl _ w).alloc (Nat.le_refl _) _).trans (hb.mono (Nat.le_succ _))

theorem said_set {w1 : World} {g : Nat} {a b : Value} (hg : w1.heap[g]? = some (.cells #[a, b] 26 (0, 0))) (x y : Value) :
    ((w1.setCell ⟨g, 0, none⟩ x).setCell ⟨g, 1, none⟩ y).cell? ⟨g, 0, none⟩ = some x ∧ ((w1.setCell ⟨g, 0, none⟩ x).setCell ⟨g, 1, none⟩ y).cell? ⟨g, 1, none⟩ = some y := by
  have h2 := heap_setCell_same _ g 1 _ 26 y (heap_setCell_same w1 g 0 _ 26 x hg)
  refine ⟨?_, ?_⟩
  · rw [cell_of_row _ _ _ _ _ _ h2]; rfl
  · rw [cell_of_row _ _ _ _ _ _ h2]; rfl

set_option maxRecDepth 100000 in
set_option maxHeartbeats 400000 in
theorem rget_not (s : ByteArray) (m : Nat) (hm : s.size = m + 4) (hs : s.size ≤ 600) (hne : (List.take m s.data.toList ++ leN (crcN (List.take m s.data.toList)) == s.toList) = false) (w : World) :
    Calls Try.prog 10 #[.string s] w fun e w' => e = .returned (.agg #[.string ⟨#[]⟩, .bool false]) ∧ Below w.heap.size w w' := by
  have hi : (s.size : Int) - 4 = m := by omega
  have hm0 : (m : Int) ≤ s.size := by omega
  have hm1 : m ≤ s.size := by omega
  have hd : decide ((s.size : Int) < 4) = false := by simp; omega
  have HM := Lib.hid hm
  have hsz : (s.extract 0 m).size ≤ 1000 := by rw [ByteArray.size_extract]; omega
  have HZ := Lib.hid hsz
  clear hm hsz
  go_enter Try.func10, Try.ntmps10
  go_wp2_with fail
  refine (rput_any _ HZ.out _).mono ?_
  rintro e w1 ⟨rfl, hb⟩
  rw [World.size_alloc] at hb
  obtain ⟨c0, c1, f0, f1, hbel, hg⟩ := said_cells hb
  have HB := Lib.hid hbel
  have HG := Lib.hid hg
  clear hb hbel hg
  go_wp2
  refine bodyPost_ret (v := .agg #[.string ⟨#[]⟩, .bool false]) (results_cell rfl _ _ _ ⟨w.heap.size, 0, none⟩ rfl _ (load26 _ _ _ _ (said_set HG.out _ _).1 (said_set HG.out _ _).2)) rfl ⟨rfl, (HB.out.setCell (Nat.le_refl _) _).setCell (Nat.le_refl _) _⟩

set_option maxRecDepth 100000 in
set_option maxHeartbeats 400000 in
theorem rget_is (s : ByteArray) (m : Nat) (hm : s.size = m + 4) (hs : s.size ≤ 600) (hne : (List.take m s.data.toList ++ leN (crcN (List.take m s.data.toList)) == s.toList) = true) (w : World) :
    Calls Try.prog 10 #[.string s] w fun e w' => e = .returned (.agg #[.string (s.extract 0 m), .bool true]) ∧ Below w.heap.size w w' := by
  have hi : (s.size : Int) - 4 = m := by omega
  have hm0 : (m : Int) ≤ s.size := by omega
  have hm1 : m ≤ s.size := by omega
  have hd : decide ((s.size : Int) < 4) = false := by simp; omega
  have HM := Lib.hid hm
  have hsz : (s.extract 0 m).size ≤ 1000 := by rw [ByteArray.size_extract]; omega
  have HZ := Lib.hid hsz
  clear hm hsz
  go_enter Try.func10, Try.ntmps10
  go_wp2_with fail
  refine (rput_any _ HZ.out _).mono ?_
  rintro e w1 ⟨rfl, hb⟩
  rw [World.size_alloc] at hb
  obtain ⟨c0, c1, f0, f1, hbel, hg⟩ := said_cells hb
  have HB := Lib.hid hbel
  have HG := Lib.hid hg
  clear hb hbel hg
  go_wp2
  refine bodyPost_ret (v := .agg #[.string (s.extract 0 m), .bool true]) (results_cell rfl _ _ _ ⟨w.heap.size, 0, none⟩ rfl _ (load26 _ _ _ _ (said_set HG.out _ _).1 (said_set HG.out _ _).2)) rfl ⟨rfl, (HB.out.setCell (Nat.le_refl _) _).setCell (Nat.le_refl _) _⟩

theorem getB_eq (l : List UInt8) (h : 4 ≤ l.length) : getB l = (l.take (l.length - 4) ++ leN (crcN (l.take (l.length - 4))) == l) := by
  unfold getB
  rw [show decide (4 ≤ l.length) = true by simpa using h, Bool.true_and, Bool.eq_iff_iff, beq_iff_eq, beq_iff_eq]
  constructor
  · intro h2
    rw [← h2, List.take_append_drop]
  · intro h2
    have h3 : l.take (l.length - 4) ++ l.drop (l.length - 4) = l := List.take_append_drop _ _
    exact List.append_cancel_left (h3.trans h2.symm)

theorem rget_yes (s : ByteArray) (hs : s.size ≤ 600) (h : getB s.data.toList = true) (w : World) :
    Calls Try.prog 10 #[.string s] w fun e w' => e = .returned (.agg #[.string (s.extract 0 (s.size - 4)), .bool true]) ∧ Below w.heap.size w w' := by
  have hl : s.data.toList.length = s.size := rfl
  have h4 : 4 ≤ s.size := by
    unfold getB at h
    rw [Bool.and_eq_true, decide_eq_true_eq] at h
    exact h.1
  rw [getB_eq _ h4, hl] at h
  refine rget_is s (s.size - 4) (by omega) hs ?_ w
  rw [ByteArray.toList_eq]
  exact h
theorem rget_no (s : ByteArray) (hs : s.size ≤ 600) (h : getB s.data.toList = false) (w : World) :
    Calls Try.prog 10 #[.string s] w fun e w' => e = .returned (.agg #[.string ⟨#[]⟩, .bool false]) ∧ Below w.heap.size w w' := by
  have hl : s.data.toList.length = s.size := rfl
  by_cases h4 : s.size < 4
  · exact rget_few s h4 w
  · rw [getB_eq _ (show 4 ≤ s.size by omega), hl] at h
    refine rget_not s (s.size - 4) (by omega) hs ?_ w
    rw [ByteArray.toList_eq]
    exact h
end Go.Proofs.Ytmmgnjgnjgjhmaa
