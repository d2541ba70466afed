/- What the statements on package codec ask at their end: three things that all know. -/
import Derived.Test.YtkkdcecnegdipaaDoorFold
namespace Go.Proofs.YtkkdcecnegdipaaDoor
open Go.RowKit Go.Shelf
set_option linter.unusedVariables false

set_option maxHeartbeats 1000000 in
theorem awake_ok (w : World) : Calls Tryd.prog 6 #[] w fun e w2 => e = .returned (.bool true) ∧ Below w.heap.size w w2 := by
  have hmk : (Instr.makeSlice 33 (.int .i64 20) (.int .i64 20)).run Tryd.prog w = .ok (.slice (some ⟨w.heap.size, 0, none⟩) 20 20) (w.alloc (.cells (madeCells (Value.int .u8 0).cells 20) 5)) := make_u8 20 (by decide) w
  rw [made_row] at hmk
  have hG0 : (w.alloc (.cells (rowF 20 []) 5)).heap[w.heap.size]? = some (.cells (rowF 20 []) 5 (0, 0)) := World.alloc_heap_new w _
  have hB0 : Below w.heap.size w (w.alloc (.cells (rowF 20 []) 5)) := (Below.refl _ w).alloc (Nat.le_refl _) _
  have hcv : (Go.convert 33 9 (.slice (some ⟨w.heap.size, 0, none⟩) 20 20)).run Tryd.prog (w.alloc (.cells (rowF 20 []) 5)) = .ok (.string ⟨(List.replicate 20 (0 : UInt8)).toArray⟩) (w.alloc (.cells (rowF 20 []) 5)) := by
    have := run_convert_bytes_back (P := Tryd.prog) (w.alloc (.cells (rowF 20 []) 5)) 33 9 5 ⟨w.heap.size, 0, none⟩ 20 (List.replicate 20 (0 : UInt8)) Tryd.underlying33 Tryd.underlying5 Tryd.underlying9 (fun j hj => by
      have hjn : j < 20 := by simpa using hj
      rw [show (⟨w.heap.size, 0, none⟩ : Addr).add j = ⟨w.heap.size, j, none⟩ by unfold Addr.add; split <;> simp_all, Lib.cell_of_heap hG0, rowF_get 20 [] j hjn, List.getElem_replicate]
      rfl)
    rwa [List.length_replicate] at this
  have C1 : Calls Tryd.prog 15 #[.string ⟨(List.replicate 20 (0 : UInt8)).toArray⟩] (w.alloc (.cells (rowF 20 []) 5)) fun e w2 => e = .returned (.string ⟨#[48, 48, 48, 48, 48, 48, 48, 48, 48, 48, 48, 48, 48, 48, 48, 48, 48, 48, 48, 48, 48, 48, 48, 48, 48, 48, 48, 48, 48, 48, 48, 48]⟩) ∧ Below w.heap.size w w2 := by
    have e : (b32 (⟨(List.replicate 20 (0 : UInt8)).toArray⟩ : ByteArray).data.toList).toArray = #[48, 48, 48, 48, 48, 48, 48, 48, 48, 48, 48, 48, 48, 48, 48, 48, 48, 48, 48, 48, 48, 48, 48, 48, 48, 48, 48, 48, 48, 48, 48, 48] := by decide +kernel
    have h := base32_any ⟨(List.replicate 20 (0 : UInt8)).toArray⟩ (w.alloc (.cells (rowF 20 []) 5)) (by decide)
    rw [e] at h
    exact h.mono (fun e w2 hh => ⟨hh.1, hB0.trans (hh.2.mono (by simp))⟩)
  have C2 : ∀ w, Calls Tryd.prog 13 #[.string ⟨#[15]⟩] w fun e w2 => e = .returned (.string ⟨#[48, 102]⟩) ∧ Below w.heap.size w w2 := fun w => by
    have e : (hex (⟨#[15]⟩ : ByteArray).data.toList).toArray = #[48, 102] := by decide +kernel
    have h := hex_any ⟨#[15]⟩ w (by decide)
    rwa [e] at h
  have C3 : ∀ w, Calls Tryd.prog 17 #[.string ⟨#[97]⟩] w fun e w2 => e = .returned (.string ⟨#[89, 81, 61, 61]⟩) ∧ Below w.heap.size w w2 := fun w => by
    have e : (b64 (⟨#[97]⟩ : ByteArray).data.toList).toArray = #[89, 81, 61, 61] := by decide +kernel
    have h := base64_any ⟨#[97]⟩ w (by decide)
    rwa [e] at h
  clear hG0 hB0
  generalize (List.replicate 20 (0 : UInt8)).toArray = Z at *
  go_enter Tryd.func6, Tryd.ntmps6
  go_wp2_with (first
    | (go_at_call 15; refine C1.mono ?_; rintro e w1 ⟨rfl, b1⟩)
    | (go_at_call 13; refine (C2 w1).mono ?_; rintro e w2 ⟨rfl, b2⟩)
    | (go_at_call 17; refine (C3 w2).mono ?_; rintro e w3 ⟨rfl, b3⟩))
  go_ret
  exact ⟨rfl, below_then (below_then b1 b2) b3⟩
end Go.Proofs.YtkkdcecnegdipaaDoor
