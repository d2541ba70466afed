/- little and Little of the document: a word as eight bytes, the lowest first. No condition but that the word has 64 bits. -/
import Derived.Test.YtfcnfcolhahghaaDoorByt
namespace Go.Proofs.YtfcnfcolhahghaaDoor
open Go.RowKit Go.Shelf
set_option linter.unusedVariables false
set_option linter.unusedSimpArgs false
theorem enters29 : ∀ args w, (callFunc 29 args).run Tryd.prog w = .ok (.enter 29 args) w := enters_of Tryd.func29 (by kernel_rfl) rfl
def fLe (x k j : Nat) : Nat := if j < k then x / 2 ^ (8 * j) % 256 else 0
theorem fLe_step (x k v : Nat) (hv : v = x / 2 ^ (8 * k) % 256) : ∀ j, j < 8 → upd (fLe x k) k v j = fLe x (k + 1) j := by
  intro j _
  unfold upd fLe
  by_cases e : j = k
  · subst e; rw [if_pos rfl, if_pos (by omega), hv]
  · rw [if_neg e]
    by_cases h : j < k
    · rw [if_pos h, if_pos (by omega)]
    · rw [if_neg h, if_neg (by omega)]
theorem fLe_all (x : Nat) : rowOf .u8 8 (fLe x 8) = bytesV (le8 x) := by
  apply List.ext_getElem?
  intro j
  by_cases hj : j < 8
  · rw [rowOf_get _ _ _ _ hj]
    unfold bytesV le8 fLe
    rw [List.map_map, List.getElem?_map, List.getElem?_range hj, if_pos hj]
    simp [UInt8.toNat_ofNat']
  · rw [List.getElem?_eq_none (by rw [rowOf_length]; omega), List.getElem?_eq_none (by rw [bytesV_length, le8_length]; omega)]
theorem make8 (W : World) : (Instr.makeSlice 41 (.int .i64 8) (.int .i64 8)).run Tryd.prog W = .ok (.slice (some ⟨W.heap.size, 0, none⟩) 8 8) (W.alloc (.cells (rowOf .u8 8 (fun _ => 0)).toArray 5)) := by kernel_rfl
set_option maxRecDepth 100000 in
set_option maxHeartbeats 1000000 in
theorem little_run (x : Nat) (w : World) :
    Calls Tryd.prog 29 #[.int .u64 x, .int .i64 8] w fun e w' => e = .returned (.string ⟨(le8 x).toArray⟩) ∧ Below w.heap.size w w' := by
  obtain ⟨tl, htl⟩ : ∃ tl : ByteArray, Hid (tl = ⟨(le8 x).toArray⟩) := ⟨_, Lib.hid rfl⟩
  rw [← htl.out]
  have hr0 : Hid (Row (w.alloc (.cells (rowOf .u8 8 (fun _ => 0)).toArray 5)) w.heap.size 5 .u8 8 (fLe x 0)) := Lib.hid (Row.ext (Row.new w 5 .u8 8 (fun _ => 0)) (fun j _ => rfl))
  obtain ⟨z, hz⟩ : ∃ z, Hid (z = (rowOf .u8 8 (fun _ => 0)).toArray) := ⟨_, Lib.hid rfl⟩
  rw [← hz.out] at hr0
  have hmk2 : ∀ W : World, (Instr.makeSlice 41 (.int .i64 8) (.int .i64 8)).run Tryd.prog W = .ok (.slice (some ⟨W.heap.size, 0, none⟩) 8 8) (W.alloc (.cells z 5)) := by rw [hz.out]; exact make8
  go_enter Tryd.func29, Tryd.ntmps29
  go_wp2
  go_loopw [6] (fun i wr => ∃ k : Nat, k ≤ 8 ∧ i = .int .i64 k ∧ Row wr w.heap.size 5 .u8 8 (fLe x k) ∧ Below w.heap.size w wr) (fun i _ => 8 - (intOf i).toNat)
  case atStart => exact ⟨0, by omega, rfl, hr0.out, (Below.refl _ w).alloc (Nat.le_refl _) _⟩
  case round =>
    clear hr0
    obtain ⟨k, hk, rfl, hrow, hb⟩ := hrel
    have HR := Lib.hid hrow
    have HB := Lib.hid hb
    clear hrow hb
    by_cases hlt : k < 8
    · obtain ⟨S, hS⟩ : ∃ S, Hid (S = 8 * k) := ⟨_, Lib.hid rfl⟩
      have hS1 : (8 : Int) * (k : Int) = (S : Int) := by rw [hS.out]; omega
      have hS64 : S < 64 := by rw [hS.out]; omega
      obtain ⟨b, hb0⟩ : ∃ b, Hid (b = x / 2 ^ S % 256) := ⟨_, Lib.hid rfl⟩
      have hwr : IntKind.u8.wrap ((x : Int) / 2 ^ S) = (b : Int) := by rw [shr_cast, hb0.out, wrap8]
      have ck : wr.cell? ⟨w.heap.size, k, none⟩ = some (.int .u8 (fLe x k k)) := HR.out.cell k hlt
      have fk : wr.frozen? ⟨w.heap.size, k, none⟩ = false := HR.out.free k
      have HN : Hid (Row (wr.setCell ⟨w.heap.size, k, none⟩ (.int .u8 b)) w.heap.size 5 .u8 8 (fLe x (k + 1))) := Lib.hid (Row.ext (Row.set (w := wr) HR.out k b) (fLe_step x k b (by rw [hb0.out, hS.out])))
      have HN2 : Hid (Below w.heap.size w (wr.setCell ⟨w.heap.size, k, none⟩ (.int .u8 b))) := Lib.hid (HB.out.setCell (p := ⟨w.heap.size, k, none⟩) (Nat.le_refl _) _)
      generalize fLe x k k = old at *
      have hltI : (k : Int) < 8 := by omega
      go_wp2
      go_roundw
      case rel => exact ⟨k + 1, by omega, by first | rfl | simp | go_num, HN.out, HN2.out⟩
      case measure => simp [intOf]; omega
    · obtain rfl : k = 8 := by omega
      have hown : wr.ownsRow w.heap.size 5 1 (.slice (some ⟨w.heap.size, 0, none⟩) 8 8) 8 (bytesV (le8 x)) := by
        rw [← fLe_all]
        exact ⟨by rw [rowOf_length], Or.inr ⟨w.heap.size, 8, _, rfl, Nat.le_refl _, HR.out, Nat.le_refl _, by unfold maxLen; omega, by rw [rowOf_size], by rw [Nat.mul_one]; exact List.take_of_length_le (by rw [rowOf_length]; exact Nat.le_refl _)⟩⟩
      obtain ⟨g, cap, he, hcv⟩ := bytes_str hown (by omega)
      injection he with he1 _ he2
      injection he1 with he1
      injection he1 with he1
      subst he1
      subst he2
      rw [← htl.out] at hcv
      clear hown HR hmk2
      rw [show ((8 : Nat) : Int) = (8 : Int) from rfl]
      go_wp2
      go_ret
      exact ⟨rfl, HB.out⟩
set_option maxRecDepth 100000 in
set_option maxHeartbeats 1000000 in
theorem Little_any (x : Nat) (w : World) :
    Calls Tryd.prog 19 #[.int .u64 x, .int .i64 8] w fun e w' => e = .returned (.string ⟨(le8 x).toArray⟩) ∧ Below w.heap.size w w' := by
  have h := Lib.hid (little_run x w)
  obtain ⟨tl, htl⟩ : ∃ tl : ByteArray, Hid (tl = ⟨(le8 x).toArray⟩) := ⟨_, Lib.hid rfl⟩
  rw [← htl.out] at h ⊢
  go_enter Tryd.func19, Tryd.ntmps19
  go_wp2_with fail
  refine h.out.mono ?_
  rintro e w1 ⟨rfl, hb⟩
  go_wp2
  go_ret
  exact ⟨rfl, hb⟩
end Go.Proofs.YtfcnfcolhahghaaDoor
