/- raw of package scalar: a number in 32 bytes, the lowest first. No condition. -/
import Derived.Test.YtfcnfcolhahghaaDoorLit
import Derived.Test.YtfcnfcolhahghaaDoorOps
namespace Go.Proofs.YtfcnfcolhahghaaDoor
open Go.RowKit Go.Shelf
set_option linter.unusedVariables false
set_option linter.unusedSimpArgs false
def fRaw (a k j : Nat) : Nat := if j < k then dig a (j / 8) / 2 ^ (j % 8 * 8) % 256 else 0
theorem fRaw_step (a k v : Nat) (hv : v = dig a (k / 8) / 2 ^ (k % 8 * 8) % 256) : ∀ j, j < 32 → upd (fRaw a k) k v j = fRaw a (k + 1) j := by
  intro j _
  unfold upd fRaw
  by_cases e : j = k
  · subst e; rw [if_pos rfl, if_pos (by omega), hv]
  · rw [if_neg e]
    by_cases h : j < k
    · rw [if_pos h, if_pos (by omega)]
    · rw [if_neg h, if_neg (by omega)]
theorem fRaw_all (a : Nat) : rowOf .u8 32 (fRaw a 32) = bytesV (bytesN a) := by
  have h : rowOf .u8 32 (fRaw a 32) = (List.range 32).map fun j => Value.int .u8 ((dig a (j / 8) / 2 ^ (j % 8 * 8) % 256 : Nat) : Int) := by
    unfold rowOf
    apply List.map_congr_left
    intro j hj
    unfold fRaw
    rw [if_pos (List.mem_range.1 hj)]
  rw [h]
  unfold bytesV bytesN leW le8
  rw [fin4]
  simp only [List.flatMap_cons, List.flatMap_nil, List.append_nil, List.map_append, List.map_map, UInt8.toNat_ofNat', Function.comp_def]
  generalize dig a = f
  rfl
theorem make32 (W : World) : (Instr.makeSlice 41 (.int .i64 32) (.int .i64 32)).run Tryd.prog W = .ok (.slice (some ⟨W.heap.size, 0, none⟩) 32 32) (W.alloc (.cells (rowOf .u8 32 (fun _ => 0)).toArray 5)) := by kernel_rfl
set_option maxRecDepth 100000 in
set_option maxHeartbeats 1000000 in
theorem raw_any (a : Nat) (w : World) :
    Calls Tryd.prog 20 #[.agg (num a)] w fun e w' => e = .returned (.string ⟨(bytesN a).toArray⟩) ∧ Below w.heap.size w w' := by
  obtain ⟨tl, htl⟩ : ∃ tl : ByteArray, Hid (tl = ⟨(bytesN a).toArray⟩) := ⟨_, Lib.hid rfl⟩
  rw [← htl.out]
  obtain ⟨A, hA⟩ : ∃ A, Hid (A = num a) := ⟨_, Lib.hid rfl⟩
  rw [← hA.out]
  have hr00 : Row ((w.alloc (.cells A 24)).alloc (.cells (rowOf .u8 32 (fun _ => 0)).toArray 5)) (w.heap.size + 1) 5 .u8 32 (fRaw a 0) := by
    have h := Row.ext (f' := fRaw a 0) (Row.new (w.alloc (.cells A 24)) 5 .u8 32 (fun _ => 0)) (fun j _ => rfl)
    rw [World.size_alloc] at h
    exact h
  have hr0 := Lib.hid hr00
  have hn0 : Hid (Row ((w.alloc (.cells A 24)).alloc (.cells (rowOf .u8 32 (fun _ => 0)).toArray 5)) w.heap.size 24 .u64 4 (dig a)) := by
    rw [hA.out]
    exact Lib.hid ((Row.new w 24 .u64 4 (dig a)).alloc _)
  have hb0 : Hid (Below w.heap.size w ((w.alloc (.cells A 24)).alloc (.cells (rowOf .u8 32 (fun _ => 0)).toArray 5))) := Lib.hid (((Below.refl _ w).alloc (Nat.le_refl _) _).alloc (by simp) _)
  clear hr00
  obtain ⟨z, hz⟩ : ∃ z, Hid (z = (rowOf .u8 32 (fun _ => 0)).toArray) := ⟨_, Lib.hid rfl⟩
  rw [← hz.out] at hr0 hn0 hb0
  have hmk2 : ∀ W : World, (Instr.makeSlice 41 (.int .i64 32) (.int .i64 32)).run Tryd.prog W = .ok (.slice (some ⟨W.heap.size, 0, none⟩) 32 32) (W.alloc (.cells z 5)) := by rw [hz.out]; exact make32
  go_enter Tryd.func20, Tryd.ntmps20
  go_wp2
  generalize (w.alloc (.cells A 24)).alloc (.cells z 5) = W0 at *
  go_loopw [8] (fun i wr => ∃ k : Nat, k ≤ 32 ∧ i = .int .i64 k ∧ Row wr w.heap.size 24 .u64 4 (dig a) ∧ Row wr (w.heap.size + 1) 5 .u8 32 (fRaw a k) ∧ Below w.heap.size w wr) (fun i _ => 32 - (intOf i).toNat)
  case atStart => exact ⟨0, by omega, rfl, hn0.out, hr0.out, hb0.out⟩
  case round =>
    clear hr0 hn0 hb0
    obtain ⟨k, hk, rfl, hrow0, hrow, hb⟩ := hrel
    have HA := Lib.hid hrow0
    have HR := Lib.hid hrow
    have HB := Lib.hid hb
    clear hrow0 hrow hb
    by_cases hlt : k < 32
    · obtain ⟨j, hj0⟩ : ∃ j, j = k / 8 := ⟨_, rfl⟩
      obtain ⟨q, hq0⟩ : ∃ q, q = k % 8 := ⟨_, rfl⟩
      obtain ⟨sh, hsh0⟩ : ∃ sh, sh = 8 * q := ⟨_, rfl⟩
      have hj4 : j < 4 := by omega
      have hq8 : q < 8 := by omega
      have hs64 : sh < 64 := by omega
      obtain ⟨y, hy0⟩ : ∃ y, y = dig a j / 2 ^ sh := ⟨_, rfl⟩
      obtain ⟨b, hb0⟩ : ∃ b, b = y % 256 := ⟨_, rfl⟩
      have hbv : b = dig a (k / 8) / 2 ^ (k % 8 * 8) % 256 := by rw [hb0, hy0, hsh0, hj0, hq0, Nat.mul_comm 8]
      have cj : wr.cell? ⟨w.heap.size, j, none⟩ = some (.int .u64 (dig a j : Int)) := HA.out.cell j hj4
      have ck : wr.cell? ⟨w.heap.size + 1, k, none⟩ = some (.int .u8 (fRaw a k k)) := HR.out.cell k hlt
      have fk : wr.frozen? ⟨w.heap.size + 1, k, none⟩ = false := HR.out.free k
      have HN1 : Hid (Row (wr.setCell ⟨w.heap.size + 1, k, none⟩ (.int .u8 b)) w.heap.size 24 .u64 4 (dig a)) := Lib.hid (HA.out.other _ _ (by show w.heap.size ≠ w.heap.size + 1; omega))
      have HN : Hid (Row (wr.setCell ⟨w.heap.size + 1, k, none⟩ (.int .u8 b)) (w.heap.size + 1) 5 .u8 32 (fRaw a (k + 1))) := Lib.hid (Row.ext (Row.set (w := wr) HR.out k b) (fRaw_step a k b hbv))
      have HN2 : Hid (Below w.heap.size w (wr.setCell ⟨w.heap.size + 1, k, none⟩ (.int .u8 b))) := Lib.hid (HB.out.setCell (p := ⟨w.heap.size + 1, k, none⟩) (by show w.heap.size ≤ w.heap.size + 1; omega) _)
      generalize fRaw a k k = old at *
      generalize dig a j = d at *
      have hj := Lib.hid hj0
      have hq := Lib.hid hq0
      have hsh := Lib.hid hsh0
      have hy := Lib.hid hy0
      have hb := Lib.hid hb0
      clear hj0 hq0 hsh0 hy0 hb0 hbv HA HR
      have hltI : (k : Int) < 32 := by omega
      go_wp2_with (first | (refine wpList_run rfl _ (exec_quo8 (.tmp 13) rfl rfl k j (by omega) rfl hj.out _) ?_) | (refine wpList_run rfl _ (exec_indexAddr24 (.tmp 1) (.tmp 14) rfl (w.heap.size) j rfl rfl hj4 _) ?_) | (refine wpList_run rfl _ (exec_rem8 (.tmp 17) rfl rfl k q (by omega) rfl hq.out _) ?_) | (refine wpList_run rfl _ (exec_mul8 (.tmp 18) rfl rfl q sh hq8 rfl hsh.out _) ?_) | (refine wpList_run rfl _ (exec_shr (.tmp 16) (.tmp 19) rfl d sh hs64 rfl rfl y hy.out _) ?_) | (refine wpList_run rfl _ (exec_conv8 (.tmp 20) rfl y b rfl hb.out _) ?_))
      go_roundw
      case rel => exact ⟨k + 1, by omega, by first | rfl | simp | go_num, HN1.out, HN.out, HN2.out⟩
      case measure => simp [intOf]; omega
    · obtain rfl : k = 32 := by omega
      have hown : wr.ownsRow (w.heap.size + 1) 5 1 (.slice (some ⟨w.heap.size + 1, 0, none⟩) 32 32) 32 (bytesV (bytesN a)) := by
        rw [← fRaw_all]
        exact ⟨by rw [rowOf_length], Or.inr ⟨w.heap.size + 1, 32, _, rfl, Nat.le_refl _, HR.out, Nat.le_refl _, by unfold maxLen; omega, by rw [rowOf_size], by rw [Nat.mul_one]; exact List.take_of_length_le (by rw [rowOf_length]; exact Nat.le_refl _)⟩⟩
      obtain ⟨g, cap, he, hcv⟩ := bytes_str hown (by omega)
      injection he with he1 _ he2
      injection he1 with he1
      injection he1 with he1
      subst he1
      subst he2
      rw [← htl.out] at hcv
      clear hown HR hmk2
      rw [show ((32 : Nat) : Int) = (32 : Int) from rfl]
      go_wp2
      go_ret
      exact ⟨rfl, HB.out⟩
end Go.Proofs.YtfcnfcolhahghaaDoor
