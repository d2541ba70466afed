/- What Sum of package crc comes to: the sum of the arithmetic, over any bytes. No condition. -/
import Derived.Test.YtmmgnjgnjgjhmaaTab

namespace Go.Proofs.Ytmmgnjgnjgjhmaa
open Go.RowKit
set_option linter.unusedVariables false

theorem take_snoc (s : ByteArray) (k : Nat) (h : k < s.size) : s.data.toList.take (k + 1) = s.data.toList.take k ++ [s[k]] := by
  rw [List.take_succ_eq_append_getElem (by simpa using h)]; rfl

set_option maxRecDepth 100000 in
set_option maxHeartbeats 400000 in
theorem sum_any (s : ByteArray) (hs : s.size ≤ 9223372036854775807) (w : World) :
    Calls Try.prog 11 #[.string s] w fun e w' => e = .returned (.int .u32 (crcN s.data.toList)) ∧ Below w.heap.size w w' := by
  obtain ⟨cs, hcs⟩ : ∃ cs, Hid (cs = wordsOf 256 tabN) := ⟨_, Lib.hid rfl⟩
  have hlen : Hid (cs.length = 256) := by unfold Hid; rw [hcs.out, wordsOf_length]
  have hone : Hid (∀ v ∈ cs, v.oneCell' = true) := by unfold Hid; rw [hcs.out]; exact wordsOf_one _ _
  have hget : Hid (∀ j, j < 256 → cs[j]? = some (.int .u32 (tabN j))) := by unfold Hid; rw [hcs.out]; exact wordsOf_get 256 tabN
  have hsz : Hid ((Try.prog.info? 40).map (·.size) = some cs.length) := by unfold Hid; rw [hlen.out]; exact size40
  have hfit : Hid (z256.toArray.size = cs.length) := by unfold Hid; rw [hlen.out, z256_size]
  go_enter Try.func11, Try.ntmps11
  go_wp2_with fail
  refine (table_walk _).mono ?_
  rw [← hcs.out]
  rintro e w1 ⟨rfl, hb⟩
  go_wp2_with (first | (refine wpList_run rfl _ (exec_alloc_agg _ 40 rfl z256.toArray (zero40 _)) ?_) | (refine wpList_run0 rfl (exec_store_new w1 40 (.tmp 3) (.tmp 6) rfl z256.toArray 40 rfl cs rfl hfit.out hone.out hsz.out) ?_))
  go_loop [4, 9] (fun n i => ∃ k N : Nat, k ≤ s.size ∧ i = .int .i64 k ∧ n = .int .u32 N ∧ Hid (N = crcSt 4294967295 (s.data.toList.take k))) (fun _ i => s.size - (intOf i).toNat)
  case atStart => exact ⟨0, _, Nat.zero_le _, rfl, rfl, Lib.hid rfl⟩
  case round =>
    obtain ⟨k, N, hk, rfl, rfl, hN⟩ := hrel
    have hN32 : N < 4294967296 := by rw [hN.out]; exact crcSt_lt _ (by omega)
    by_cases hlt : k < s.size
    · have hn : Hid (crcSt 4294967295 (s.data.toList.take (k + 1)) = N / 256 ^^^ tabN (N % 256 ^^^ s[k].toNat)) := by
        unfold Hid
        rw [take_snoc s k hlt, crcSt_snoc, ← hN.out]; rfl
      have hc : s[k].toNat < 256 := UInt8.toNat_lt _
      have hq : N % 256 ^^^ s[k].toNat < 256 := Nat.xor_lt_two_pow (n := 8) (by omega) hc
      have hx8 : bits .xor .u8 ((N : Int) % 256) (s[k].toNat : Int) = ((N % 256 ^^^ s[k].toNat : Nat) : Int) := u8_xor_nat (N % 256) _ (by omega) hc
      generalize N % 256 ^^^ s[k].toNat = q at *
      have ht : tabN q < 4294967296 := tabN_lt (by omega)
      have hx32 : bits .xor .u32 ((N : Int) / 256) (tabN q : Int) = ((N / 256 ^^^ tabN q : Nat) : Int) := u32_xor_nat (N / 256) _ (by omega) ht
      have hcell : (w1.alloc (.cells cs.toArray 40)).cell? ⟨w1.heap.size, q, none⟩ = some (.int .u32 (tabN q)) := by
        rw [cell_of_row _ w1.heap.size q cs.toArray 40 (0, 0) (heap_alloc_new w1 _), List.getElem?_toArray]
        exact hget.out q hq
      generalize N / 256 ^^^ tabN q = m at *
      clear ht hc
      go_wp2
      go_round
      case rel => exact ⟨k + 1, m, by omega, by go_num, rfl, Lib.hid hn.out.symm⟩
      case measure => simp [intOf]; omega
    · have hk2 : Hid (k = s.size) := Lib.hid (by omega)
      have hall : Hid (4294967295 ^^^ N = crcN s.data.toList) := by
        unfold Hid crcN
        rw [hN.out, hk2.out, List.take_of_length_le (by simp)]
      have hx : Hid (bits .xor .u32 IntKind.u32.max (N : Int) = ((4294967295 ^^^ N : Nat) : Int)) := Lib.hid (u32_xor_nat 4294967295 N (by omega) hN32)
      have hbel : Below w.heap.size w (w1.alloc (.cells cs.toArray 40)) := hb.alloc hb.size _
      have HB := Lib.hid hbel
      clear hbel hb
      go_wp2
      go_ret
      refine ⟨?_, HB.out⟩
      rw [← hall.out, ← hx.out]
      rfl
end Go.Proofs.Ytmmgnjgnjgjhmaa

