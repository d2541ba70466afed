/- The law WideEdges walked: it returns true at any numbers, and no memory that was there is changed. -/
import Derived.Test.YtnajglmabgofeaaShaF
import Derived.Test.YtnajglmabgofeaaKnown
import Derived.Deep.RegionHeld3
import Derived.Laws.MakeOwn
namespace Go.Proofs.Ytnajglmabgofeaa
open Go.RowKit
set_option linter.unusedVariables false
def eTo (c k j : Nat) : Nat := if j < k then (c + j) % 256 else 0
theorem eTo_step (c k m v : Nat) (hv : v = (c + k) % 256) : ∀ j, j < m → upd (eTo c k) k v j = eTo c (k + 1) j := by
  intro j _
  unfold upd eTo
  by_cases e : j = k
  · subst e; rw [if_pos rfl, if_pos (by omega), hv]
  · rw [if_neg e]
    by_cases h : j < k
    · rw [if_pos h, if_pos (by omega)]
    · rw [if_neg h, if_neg (by omega)]
def edgeL (c m : Nat) : List UInt8 := (List.range m).map fun j => UInt8.ofNat (c + j)
theorem edge_all (c m : Nat) : rowOf .u8 m (eTo c m) = bytesV (edgeL c m) := by
  apply List.ext_getElem?
  intro j
  by_cases hj : j < m
  · rw [rowOf_get _ _ _ _ hj]
    unfold bytesV edgeL eTo
    rw [List.map_map, List.getElem?_map, List.getElem?_range hj, if_pos hj]
    simp [UInt8.toNat_ofNat']
  · rw [List.getElem?_eq_none (by rw [rowOf_length]; omega), List.getElem?_eq_none (by rw [bytesV_length]; unfold edgeL; simp; omega)]
theorem make_edge (m : Nat) (hm : m ≤ 1000) (W : World) : (Instr.makeSlice 29 (.int .i64 m) (.int .i64 m)).run Try.prog W = .ok (.slice (some ⟨W.heap.size, 0, none⟩) m m) (W.alloc (.cells (rowOf .u8 m (fun _ => 0)).toArray 5)) := by
  obtain ⟨i0, hi, hz0, hz1, hz2⟩ := info_parts info5
  have h := run_make (P := Try.prog) W 29 5 i0 (.int .u8 0) Try.underlying29 hi hz0 .i64 .i64 (m : Int) (m : Int) (by omega) (by omega) (by rw [hz2]; omega) (by omega)
  rw [hz1] at h
  rw [h, ← replicate_rowOf]
  have hm2 : madeCells (Value.int .u8 0).cells m = (List.replicate m (Value.int .u8 0)).toArray := by
    apply Array.ext
    · simp [madeCells]
    · intro i h1 h2
      simp [madeCells, Value.cells, Nat.mod_one]
  rw [← hm2]
  simp
def EH (g c k : Nat) (w w' : World) : Prop := Row w' g 5 .u8 k (eTo c k) ∧ Below g w w'
theorem EH.below {g c k : Nat} {w a b : World} (h : EH g c k w a) (hb : Below a.heap.size a b) : EH g c k w b := ⟨h.1.below hb, h.2.trans (hb.mono (Nat.le_of_lt h.1.lt))⟩
theorem EH.bel {g c k : Nat} {w a : World} (h : EH g c k w a) : Below g w a := h.2
theorem sha_size (l : List UInt8) : (⟨(sha l).toArray⟩ : ByteArray).size = 64 := by
  show (sha l).toArray.size = 64
  rw [List.size_toArray]
  rfl
theorem EH.own {g c k : Nat} {w W : World} (h : EH g c k w W) (hk : k ≤ 1000) : W.ownsRow g 5 1 (.slice (some ⟨g, 0, none⟩) k k) k (bytesV (edgeL c k)) := by
  rw [← edge_all]
  exact ⟨by rw [rowOf_length]; omega, Or.inr ⟨g, k, _, rfl, Nat.le_refl _, h.1, Nat.le_refl _, by unfold maxLen; omega, by rw [rowOf_size]; omega, by rw [Nat.mul_one]; exact List.take_of_length_le (by rw [rowOf_length]; exact Nat.le_refl _)⟩⟩
set_option maxRecDepth 100000 in
set_option maxHeartbeats 2000000 in
theorem edges_law (n c : Nat) (hn : n < 256) (hc : c < 256) (w : World) :
    Calls Try.prog 5 #[.int .u8 n, .int .u8 c] w fun e w' => e = .returned (.bool true) ∧ Below w.heap.size w w' := by
  obtain ⟨m, hm0⟩ : ∃ m, Hid (m = 100 + n % 170) := ⟨_, Lib.hid rfl⟩
  have hm1 : m < 270 := by rw [hm0.out]; omega
  have hm2 : 100 ≤ m := by rw [hm0.out]; omega
  have e1 : (100 : Int) + (n : Int) % 170 = (m : Int) := by rw [hm0.out]; omega
  have hmk := make_edge m (by omega)
  have hr0 : Hid (Row (w.alloc (.cells (rowOf .u8 m (fun _ => 0)).toArray 5)) w.heap.size 5 .u8 m (eTo c 0)) := Lib.hid (Row.ext (Row.new w 5 .u8 m (fun _ => 0)) (fun j _ => rfl))
  obtain ⟨z, hz⟩ : ∃ z, Hid (z = (rowOf .u8 m (fun _ => 0)).toArray) := ⟨_, Lib.hid rfl⟩
  rw [← hz.out] at hr0
  have hmk2 : ∀ W : World, (Instr.makeSlice 29 (.int .i64 m) (.int .i64 m)).run Try.prog W = .ok (.slice (some ⟨W.heap.size, 0, none⟩) m m) (W.alloc (.cells z 5)) := by rw [hz.out]; exact hmk
  clear hmk
  go_enter Try.func5, Try.ntmps5
  go_wp2
  go_loopw [6] (fun i wr => ∃ k : Nat, k ≤ m ∧ i = .int .i64 k ∧ Row wr w.heap.size 5 .u8 m (eTo c k) ∧ Below w.heap.size w wr) (fun i _ => m - (intOf i).toNat)
  case atStart => exact ⟨0, by omega, rfl, hr0.out, (Below.refl _ w).alloc (Nat.le_refl _) _⟩
  case round =>
    clear hr0
    obtain ⟨k, hk, rfl, hrow, hb⟩ := hrel
    have HR := Lib.hid hrow
    have HB := Lib.hid hb
    clear hrow hb
    by_cases hlt : k < m
    · obtain ⟨b, hb0⟩ : ∃ b, Hid (b = (c + k) % 256) := ⟨_, Lib.hid rfl⟩
      obtain ⟨kb, hkb⟩ : ∃ kb, Hid (kb = k % 256) := ⟨_, Lib.hid rfl⟩
      have hw1 : IntKind.u8.wrap (k : Int) = (kb : Int) := by rw [wrap8, hkb.out]
      have hw2 : IntKind.u8.wrap ((c : Int) + (kb : Int)) = (b : Int) := by
        have h := wrap8 (c + kb)
        rw [hb0.out, show (c + k) % 256 = (c + kb) % 256 by rw [hkb.out]; omega]
        exact h
      have ck : wr.cell? ⟨w.heap.size, k, none⟩ = some (.int .u8 (eTo c k k)) := HR.out.cell k hlt
      have fk : wr.frozen? ⟨w.heap.size, k, none⟩ = false := HR.out.free k
      have HN : Hid (Row (wr.setCell ⟨w.heap.size, k, none⟩ (.int .u8 b)) w.heap.size 5 .u8 m (eTo c (k + 1))) := Lib.hid (Row.ext (Row.set (w := wr) HR.out k b) (eTo_step c k m b hb0.out))
      have HN2 : Hid (Below w.heap.size w (wr.setCell ⟨w.heap.size, k, none⟩ (.int .u8 b))) := Lib.hid (HB.out.setCell (p := ⟨w.heap.size, k, none⟩) (Nat.le_refl _) _)
      generalize eTo c k k = old at *
      have hltI : (k : Int) < m := by omega
      go_wp2
      go_roundw
      case rel => exact ⟨k + 1, by omega, by go_num, HN.out, HN2.out⟩
      case measure => simp [intOf]; omega
    · obtain rfl : k = m := by omega
      obtain ⟨g, hg⟩ : ∃ g, Hid (g = w.heap.size) := ⟨_, Lib.hid rfl⟩
      have hE : EH g c k w wr := by unfold EH; rw [hg.out]; exact ⟨HR.out, HB.out⟩
      have hED : EH g c k w wr.drew := by unfold EH; rw [hg.out]; exact ⟨HR.out, HB.out.drew⟩
      have hgd := hg.out
      rw [← hgd]
      obtain ⟨X, hX⟩ : ∃ X : ByteArray, Hid (X = ⟨(edgeL c k).toArray⟩) := ⟨_, Lib.hid rfl⟩
      have hXs : X.size ≤ 1000 := by rw [hX.out]; show (edgeL c k).toArray.size ≤ _; unfold edgeL; simp; omega
      have hcvt : Hid (∀ W, EH g c k w W → (Go.convert 29 9 (.slice (some ⟨g, 0, none⟩) k k)).run Try.prog W = .ok (.string X) W) := by
        intro W hW
        obtain ⟨g2, cap, he, hcv⟩ := bytes_str (hW.own (by omega)) (by omega)
        injection he with he1 _ he2
        injection he1 with he1
        injection he1 with he1
        subst he1
        subst he2
        rw [hX.out]
        exact hcv
      obtain ⟨u, hu⟩ : ∃ u : ByteArray, Hid (u = ⟨(sha X.data.toList).toArray⟩) := ⟨_, Lib.hid rfl⟩
      have hus : u.size = 64 := by rw [hu.out]; exact sha_size _
      have H9 : Hid (∀ W, EH g c k w W → Calls Try.prog 7 #[.string X] W fun e0 w' => e0 = .returned (.string u) ∧ Below W.heap.size W w') := fun W hW => by
        rw [hu.out]; exact sum_any X (by omega) W
      have H10 : Hid (∀ W, EH g c k w W → Calls Try.prog 8 #[.string X] W fun e0 w' => e0 = .returned (.string u) ∧ Below W.heap.size W w') := fun W hW => by
        rw [hu.out]; exact rsha_any X (by omega) W
      have H8 : Hid (∀ W, EH g c k w W → Calls Try.prog 6 #[] W fun e0 w' => e0 = .returned (.bool true) ∧ Below W.heap.size W w') := fun W hW => awake_ok W
      have HE := Lib.hid hE
      have HED := Lib.hid hED
      clear hE hED HR HB hmk2 hz hgd hX hu
      go_wp2
      go_region_held3 (fun w' => EH g c k w w' ∧ (Go.convert 29 9 (.slice (some ⟨g, 0, none⟩) k k)).run Try.prog w' = .ok (.string X) w') (first | exact ⟨HE.out, hcvt.out _ HE.out⟩ | exact ⟨HED.out, hcvt.out _ HED.out⟩ | exact ⟨HED.out.below hb1, hcvt.out _ (HED.out.below hb1)⟩ | (go_split_ands; exact ⟨EH.below (by assumption) hb1, hcvt.out _ (EH.below (by assumption) hb1)⟩)) (first | (go_at_call 7; (with_reducible refine (H9.out _ ?_).mono ?_); (first | exact HED.out | (go_split_ands; assumption)); rintro e w' ⟨rfl, hb1⟩) | (go_at_call 8; (with_reducible refine (H10.out _ ?_).mono ?_); (first | exact HED.out | (go_split_ands; assumption)); rintro e w' ⟨rfl, hb1⟩) | (go_at_call 6; (with_reducible refine (H8.out _ ?_).mono ?_); (first | exact HED.out | (go_split_ands; assumption)); rintro e w' ⟨rfl, hb1⟩))
      have HF : Hid (Below g w w') := by go_split_ands; exact EH.bel (by assumption)
      rename_i hHeld
      clear hHeld
      go_wp2
      go_ret
      exact ⟨rfl, by rw [← hg.out]; exact HF.out⟩
end Go.Proofs.Ytnajglmabgofeaa
