/- What New of package disk makes, and what Sector of the law makes of a text. -/
import Derived.Test.YtpkhddnehhophaaMarks
namespace Go.Proofs.Ytpkhddnehhophaa
open Go.RowKit
set_option linter.unusedVariables false

def z128 : List UInt8 := List.replicate 128 0
theorem info69 : (Try.prog.info? 69).map (fun i => (i.zero, i.size, i.bytes)) = some (some (.agg (bv z128).toArray), 128, 128) := by kernel_rfl
theorem info5 : (Try.prog.info? 5).map (fun i => (i.zero, i.size, i.bytes)) = some (some (.int .u8 0), 1, 1) := by kernel_rfl

theorem new_bad (n : Int) (h : n < 32 ∨ 4096 < n) (w : World) : Calls Try.prog 12 #[.int .i64 n] w fun e w' => e = .returned (.tuple #[.pointer none, .int .i64 1]) ∧ w = w' := by
  rcases h with h | h
  · have hd : decide (n < 32) = true := by simpa using h
    go_enter Try.func12, Try.ntmps12
    go_wp2
    go_ret2
    exact ⟨rfl, rfl⟩
  · have hd : decide (n < 32) = false := by simp; omega
    have hd2 : decide (4096 < n) = true := by simpa using h
    go_enter Try.func12, Try.ntmps12
    go_wp2
    go_ret2
    exact ⟨rfl, rfl⟩

def DS.new (n : Nat) : DS := { n := n, firm := fun _ => z64, now := fun _ => z64, loose := [], fuse := -1, down := false }

set_option maxHeartbeats 400000 in
theorem new_walk (n : Nat) (h1 : 32 ≤ n) (h2 : n ≤ 4096) (w : World) : Calls Try.prog 12 #[.int .i64 n] w fun e w' => e = .returned (.tuple #[.pointer (some ⟨w.heap.size + 1, 0, none⟩), .int .i64 0]) ∧
    (w.alloc (.cells (madeCells (bv z128).toArray (n * 128)) 69)).alloc (.cells #[.slice (some ⟨w.heap.size, 0, none⟩) n n, .slice none 0 0, .int .i64 (-1), .bool false] 62) = w' := by
  obtain ⟨i0, hi, hz0, hz1, hz2⟩ := info_parts info69
  have HM := Lib.hid (fun (ρ : Operand → Value) (o : Oper) (x y : Operand) (ho : o.op = .makeSlice 59 x y) (hx : ρ x = .int .i64 n) (hy : ρ y = .int .i64 n) => exec_makeSlice (P := Try.prog) w 59 69 x y ho i0 _ 128 Try.underlying59 hi hz0 hz1 n hx hy (by rw [hz2]; omega) (by omega))
  clear hi hz0 hz1 hz2
  have hd : decide ((n : Int) < 32) = false := by simp; omega
  have hd2 : decide (4096 < (n : Int)) = false := by simp; omega
  go_enter Try.func12, Try.ntmps12
  go_wp2_with (refine wpList_run rfl _ (HM.out _ _ (.tmp 10) (.tmp 10) rfl rfl rfl) ?_)
  go_ret2
  exact ⟨rfl, rfl⟩

theorem new_ok (n : Nat) (h1 : 32 ≤ n) (h2 : n ≤ 4096) (w : World) (B : Nat) (hB : B ≤ w.heap.size) : Calls Try.prog 12 #[.int .i64 n] w fun e w' => ∃ b bs, e = .returned (.tuple #[.pointer (some ⟨b, 0, none⟩), .int .i64 0]) ∧
    w.heap.size ≤ b ∧ w.heap.size ≤ bs ∧ Rep w' B b bs (.slice none 0 0) (DS.new n) ∧ Fr (fun _ => False) w w' := by
  refine (new_walk n h1 h2 w).mono ?_
  rintro e w' ⟨he, rfl⟩
  refine ⟨_, _, he, Nat.le_succ _, Nat.le_refl _, ⟨by omega, by omega, ?_, h2, ⟨madeCells (bv z128).toArray (n * 128), ?_, ?_⟩, World.ownsRow_nil _ _ _ _, by simp [DS.new], by simp [DS.new], by simp [DS.new, Lit.wf, IntKind.min, IntKind.max, IntKind.signed, IntKind.bits]⟩, ((Fr.refl _ w).alloc _).alloc _⟩
  · have := heap_alloc_new (w.alloc (.cells (madeCells (bv z128).toArray (n * 128)) 69)) (.cells #[.slice (some ⟨w.heap.size, 0, none⟩) n n, .slice none 0 0, .int .i64 (-1), .bool false] 62)
    rw [World.size_alloc] at this
    exact this
  · exact (Below.heap_alloc _ _ _ (by simp)).trans (heap_alloc_new w _)
  · have hget : ∀ k, k < n * 128 → (madeCells (bv z128).toArray (n * 128))[k]? = some (.int .u8 0) := by
      intro k hk
      have h4 : (bv z128).toArray.size = 128 := by rw [List.size_toArray, bv_length]; exact List.length_replicate
      have h5 : (bv z128).toArray[k % 128]? = some (.int .u8 0) := by
        rw [List.getElem?_toArray, bv_get, if_pos (by rw [show z128.length = 128 from List.length_replicate]; omega)]
        unfold bget z128
        rw [List.getD_eq_getElem?_getD, List.getElem?_replicate]
        split <;> rfl
      unfold madeCells
      rw [Array.getElem?_map, Array.getElem?_range, if_pos hk]
      simp only [Option.map_some, h4]
      rw [Array.getElem!_eq_getD, Array.getD_eq_getD_getElem?, h5]
      rfl
    have hz : ∀ j, j < 64 → bget z64 j = .int .u8 0 := by
      intro j hj
      unfold bget z64
      rw [List.getD_eq_getElem?_getD, List.getElem?_replicate]
      split <;> rfl
    refine ⟨size_madeCells _ _, fun i _ => z64_length, fun i _ => z64_length, ?_, ?_⟩
    · intro i hi j hj
      have hi' : i < n := hi
      rw [hget _ (by omega)]
      show _ = some (bget z64 j)
      rw [hz j hj]
    · intro i hi j hj
      have hi' : i < n := hi
      rw [hget _ (by omega)]
      show _ = some (bget z64 j)
      rw [hz j hj]

/-- A text as a sector. -/
def pad (s : List UInt8) : List UInt8 := (List.range 64).map fun j => s.getD j 0
theorem pad_length (s : List UInt8) : (pad s).length = 64 := by simp [pad]

set_option maxHeartbeats 400000 in
theorem sector_walk (s : ByteArray) (hs : s.size ≤ 9223372036854775807) (w : World) : Calls Try.prog 14 #[.string s] w fun e w' => e = .returned (.string ⟨(pad s.data.toList).toArray⟩) ∧ Fr (fun _ => False) w w' := by
  obtain ⟨i0, hi, hz0, hz1, hz2⟩ := info_parts info5
  have HM := Lib.hid (fun (ρ : Operand → Value) (o : Oper) (x y : Operand) (ho : o.op = .makeSlice 25 x y) (hx : ρ x = .int .i64 ((64 : Nat) : Int)) (hy : ρ y = .int .i64 ((64 : Nat) : Int)) => exec_makeSlice (P := Try.prog) w 25 5 x y ho i0 _ 1 Try.underlying25 hi hz0 hz1 64 hx hy (by rw [hz2]; omega) (by omega))
  clear hi hz0 hz1 hz2
  go_enter Try.func14, Try.ntmps14
  go_wp2_with (refine wpList_run rfl _ (HM.out _ _ (.const (.int .i64 64)) (.const (.int .i64 64)) rfl rfl rfl) ?_)
  go_loopw [4] (fun i wr => ∃ k : Nat, ∃ cur, k ≤ s.size ∧ k ≤ 64 ∧ i = .int .i64 k ∧ wr = w.alloc (.cells cur 5) ∧ cur.size = 64 ∧ ∀ j, j < 64 → cur[j]? = some (.int .u8 ((if j < k then s.data.toList.getD j 0 else 0).toNat : Int))) (fun i _ => 64 - (intOf i).toNat)
  case atStart => exact ⟨0, _, Nat.zero_le _, Nat.zero_le _, rfl, rfl, (by rw [size_madeCells]), fun j hj => made_get (.int .u8 0) _ j rfl hj⟩
  case round =>
    obtain ⟨k, cur, hk, hk2, rfl, rfl, hcs, hcur⟩ := hrel
    have HC := Lib.hid hcur
    have HS := Lib.hid hcs
    clear hcur hcs HM
    by_cases hlt : k < s.size
    · by_cases hlt2 : k < 64
      · have hold : (w.alloc (.cells cur 5)).cell? ⟨w.heap.size, k, none⟩ = some (.int .u8 ((if k < k then s.data.toList.getD k 0 else 0).toNat : Int)) := by rw [cell_of_row _ w.heap.size k cur 5 (0, 0) (heap_alloc_new w _)]; exact HC.out k hlt2
        have hsk : s.data.toList.getD k 0 = s[k] := by
          rw [List.getD_eq_getElem?_getD, List.getElem?_eq_getElem (by simpa using hlt)]
          rfl
        have HK := Lib.hid hsk
        clear hsk
        go_wp2
        go_roundw
        case rel =>
          refine ⟨k + 1, _, by omega, by omega, by go_num, rfl, by rw [Array.size_setIfInBounds]; exact HS.out, fun j hj => ?_⟩
          rw [Array.getElem?_setIfInBounds]
          by_cases e : k = j
          · subst e
            rw [if_pos rfl, if_pos (by rw [HS.out]; exact hlt2), if_pos (by omega), HK.out]
          · rw [if_neg e, HC.out j hj]
            by_cases e2 : j < k
            · rw [if_pos e2, if_pos (by omega)]
            · rw [if_neg e2, if_neg (by omega)]
        case measure => simp [intOf]; omega
      · have hfin : Hid (∀ j (hj : j < (pad s.data.toList).length), (w.alloc (.cells cur 5)).cell? ((⟨w.heap.size, 0, none⟩ : Addr).add j) = some (.int .u8 ((pad s.data.toList)[j].toNat : Int))) := by
          intro j hj
          rw [pad_length] at hj
          rw [addr_add, Nat.zero_add, cell_of_row _ w.heap.size j cur 5 (0, 0) (heap_alloc_new w _), HC.out j hj, if_pos (by omega)]
          simp [pad]
        have hfr := Lib.hid ((Fr.refl (fun _ => False) w).alloc (.cells cur 5))
        have hpl := Lib.hid (pad_length s.data.toList)
        obtain rfl : k = 64 := by omega
        clear hlt2 HC
        go_wp2_with (refine wpList_convert_bytes rfl 25 9 5 (.tmp 24) rfl ⟨w.heap.size, 0, none⟩ 64 64 rfl (pad s.data.toList) hpl.out Try.underlying25 Try.underlying5 Try.underlying9 hfin.out ?_)
        go_ret
        exact ⟨rfl, hfr.out⟩
    · have hfin : Hid (∀ j (hj : j < (pad s.data.toList).length), (w.alloc (.cells cur 5)).cell? ((⟨w.heap.size, 0, none⟩ : Addr).add j) = some (.int .u8 ((pad s.data.toList)[j].toNat : Int))) := by
        intro j hj
        rw [pad_length] at hj
        rw [addr_add, Nat.zero_add, cell_of_row _ w.heap.size j cur 5 (0, 0) (heap_alloc_new w _), HC.out j hj]
        have hks : k = s.size := by omega
        by_cases e2 : j < k
        · rw [if_pos e2]; simp [pad]
        · rw [if_neg e2]
          have : s.data.toList.getD j 0 = 0 := by
            rw [List.getD_eq_getElem?_getD, List.getElem?_eq_none (by have : s.data.toList.length = s.size := rfl; omega)]
            rfl
          simp only [pad, List.getElem_map, List.getElem_range, this]
      have hfr := Lib.hid ((Fr.refl (fun _ => False) w).alloc (.cells cur 5))
      have hpl := Lib.hid (pad_length s.data.toList)
      obtain rfl : k = s.size := by omega
      clear HC hlt
      go_wp2_with (refine wpList_convert_bytes rfl 25 9 5 (.tmp 24) rfl ⟨w.heap.size, 0, none⟩ 64 64 rfl (pad s.data.toList) hpl.out Try.underlying25 Try.underlying5 Try.underlying9 hfin.out ?_)
      go_ret
      exact ⟨rfl, hfr.out⟩
end Go.Proofs.Ytpkhddnehhophaa
