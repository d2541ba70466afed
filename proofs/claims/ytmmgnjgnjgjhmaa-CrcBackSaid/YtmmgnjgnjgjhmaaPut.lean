/- The document's Crc and PutCrc, and tail and Put of package crc. No condition but the lengths that each law names. -/
import Derived.Test.YtmmgnjgnjgjhmaaRef

namespace Go.Proofs.Ytmmgnjgnjgjhmaa
open Go.RowKit
set_option linter.unusedVariables false

/-- A slice of 256 words, the table's. -/
def TabAt (w : World) (v : Value) (B : Nat) : Prop := ∃ g cap, v = .slice (some ⟨g, 0, none⟩) 256 cap ∧ B ≤ g ∧ ∀ j, j < 256 → w.cell? ⟨g, j, none⟩ = some (.int .u32 (tabN j))
theorem rtab_at (w : World) : Calls Try.prog 16 #[] w fun e w' => ∃ g cap, e = .returned (.slice (some ⟨g, 0, none⟩) 256 cap) ∧ (∀ j, j < 256 → w'.cell? ⟨g, j, none⟩ = some (.int .u32 (tabN j))) ∧ Below w.heap.size w w' := by
  refine (rtab_any w).mono ?_
  rintro e w' ⟨v, he, hown, hb⟩
  rcases hown.2 with ⟨_, h0⟩ | ⟨g, cap, cur, rfl, _⟩
  · omega
  · refine ⟨g, cap, he, fun j hj => ?_, hb⟩
    rw [hown.cellAt j (by omega), wordsOf_get 256 tabN j hj]

set_option maxRecDepth 100000 in
set_option maxHeartbeats 400000 in
theorem rcrc_any (s : ByteArray) (hs : s.size ≤ 9223372036854775807) (w : World) :
    Calls Try.prog 12 #[.string s] w fun e w' => e = .returned (.int .u32 (crcN s.data.toList)) ∧ Below w.heap.size w w' := by
  go_enter Try.func12, Try.ntmps12
  go_wp2_with fail
  refine (rtab_at _).mono ?_
  rintro e w1 ⟨g, cap, rfl, hcl, hb⟩
  have HC := Lib.hid hcl
  have HB := Lib.hid hb
  clear hcl hb
  go_wp2
  go_loop [4, 5] (fun n i => ∃ k N : Nat, k ≤ s.size ∧ i = .int .i64 k ∧ n = .int .u32 N ∧ Hid (N = crcSt 4294967295 (s.data.toList.take k))) (fun _ i => s.size - (intOf i).toNat)
  case atStart => exact ⟨0, _, Nat.zero_le _, rfl, rfl, Lib.hid rfl⟩
  case round =>
    obtain ⟨k, N, hk, rfl, rfl, hN⟩ := hrel
    have hN32 : N < 4294967296 := by rw [hN.out]; exact crcSt_lt _ (by omega)
    by_cases hlt : k < s.size
    · have hn : Hid (crcSt 4294967295 (s.data.toList.take (k + 1)) = N / 256 ^^^ tabN (N % 256 ^^^ s[k].toNat)) := by
        unfold Hid
        rw [take_snoc s k hlt, crcSt_snoc, ← hN.out]; rfl
      have hc : s[k].toNat < 256 := UInt8.toNat_lt _
      have hq : N % 256 ^^^ s[k].toNat < 256 := Nat.xor_lt_two_pow (n := 8) (by omega) hc
      have hx8 : bits .xor .u8 ((N : Int) % 256) (s[k].toNat : Int) = ((N % 256 ^^^ s[k].toNat : Nat) : Int) := u8_xor_nat (N % 256) _ (by omega) hc
      generalize N % 256 ^^^ s[k].toNat = q at *
      have ht : tabN q < 4294967296 := tabN_lt (by omega)
      have hx32 : bits .xor .u32 ((N : Int) / 256) (tabN q : Int) = ((N / 256 ^^^ tabN q : Nat) : Int) := u32_xor_nat (N / 256) _ (by omega) ht
      have hcell := HC.out q hq
      generalize N / 256 ^^^ tabN q = m at *
      clear ht hc
      go_wp2
      go_round
      case rel => exact ⟨k + 1, m, by omega, by go_num, rfl, Lib.hid hn.out.symm⟩
      case measure => simp [intOf]; omega
    · have hk2 : Hid (k = s.size) := Lib.hid (by omega)
      have hall : Hid (4294967295 ^^^ N = crcN s.data.toList) := by
        unfold Hid crcN
        rw [hN.out, hk2.out, List.take_of_length_le (by simp)]
      have hx : Hid (bits .xor .u32 IntKind.u32.max (N : Int) = ((4294967295 ^^^ N : Nat) : Int)) := Lib.hid (u32_xor_nat 4294967295 N (by omega) hN32)
      go_wp2
      go_ret
      refine ⟨?_, HB.out⟩
      rw [← hall.out, ← hx.out]
      rfl

/-- The four bytes of a number, the lowest first. -/
def leN (n : Nat) : List UInt8 := [UInt8.ofNat n, UInt8.ofNat (n / 256), UInt8.ofNat (n / 65536), UInt8.ofNat (n / 16777216)]
theorem zero45 (w : World) : (zeroValue 45).run Try.prog w = .ok (.agg #[.int .u8 0, .int .u8 0, .int .u8 0, .int .u8 0]) w := by kernel_rfl

set_option maxRecDepth 100000 in
set_option maxHeartbeats 400000 in
theorem tail_any (s : ByteArray) (hs : s.size ≤ 9223372036854775807) (w : World) :
    Calls Try.prog 17 #[.string s] w fun e w' => e = .returned (.string ⟨(leN (crcN s.data.toList)).toArray⟩) ∧ Below w.heap.size w w' := by
  have hn := crcN_lt s.data.toList
  have HS := Lib.hid (sum_any s hs w)
  obtain ⟨n, hn2⟩ : ∃ n, Hid (n = crcN s.data.toList) := ⟨_, Lib.hid rfl⟩
  rw [← hn2.out] at HS hn
  rw [← hn2.out]
  go_enter Try.func17, Try.ntmps17
  go_wp2_with fail
  refine HS.out.mono ?_
  rintro e w1 ⟨rfl, hb⟩
  go_wp2_with (refine wpList_run rfl _ (exec_alloc_agg _ 45 rfl #[.int .u8 0, .int .u8 0, .int .u8 0, .int .u8 0] (zero45 _)) ?_)
  have HB := Lib.hid hb
  clear hb HS
  obtain ⟨W2, hW2⟩ : ∃ W2, Hid (W2 = w1.alloc (.cells #[.int .u8 ((n : Int) % 256), .int .u8 ((n : Int) / 256 % 256), .int .u8 ((n : Int) / 65536 % 256), .int .u8 ((n : Int) / 16777216)] 45)) := ⟨_, Lib.hid rfl⟩
  have hc : Hid (∀ j (hj : j < (leN n).length), W2.cell? ((⟨w1.heap.size, 0, none⟩ : Addr).add j) = some (.int .u8 ((leN n)[j].toNat : Int))) := by
    unfold Hid
    intro j hj
    rw [hW2.out, addr_add, cell_of_row _ w1.heap.size (0 + j) _ 45 (0, 0) (heap_alloc_new w1 _), Nat.zero_add]
    have hj4 : j < 4 := hj
    rcases (show j = 0 ∨ j = 1 ∨ j = 2 ∨ j = 3 by omega) with rfl | rfl | rfl | rfl
    · simp [leN]
    · simp [leN]
    · simp [leN]
    · simp [leN]; omega
  have hbel : Hid (Below w.heap.size w W2) := by unfold Hid; rw [hW2.out]; exact HB.out.alloc HB.out.size _
  have hcv : (Go.convert 33 9 (.slice (some ⟨w1.heap.size, 0, none⟩) 4 4)).run Try.prog W2 = .ok (.string ⟨(leN n).toArray⟩) W2 := run_convert_bytes_back W2 33 9 5 ⟨w1.heap.size, 0, none⟩ 4 (leN n) Try.underlying33 Try.underlying5 Try.underlying9 hc.out
  have e2 := hW2.out
  subst e2
  clear hW2
  go_rounds 5
  go_ret
  exact ⟨rfl, hbel.out⟩

set_option maxRecDepth 100000 in
set_option maxHeartbeats 400000 in
theorem little_any (n : Nat) (hn : n < 4294967296) (w1 : World) :
    Calls Try.prog 20 #[.int .u64 n, .int .i64 4] w1 fun e w' => e = .returned (.string ⟨(leN n).toArray⟩) ∧ Below w1.heap.size w1 w' := by
  obtain ⟨W2, hW2⟩ : ∃ W2, Hid (W2 = w1.alloc (.cells #[.int .u8 ((n : Int) % 256), .int .u8 ((n : Int) / 256 % 256), .int .u8 ((n : Int) / 65536 % 256), .int .u8 ((n : Int) / 16777216)] 5)) := ⟨_, Lib.hid rfl⟩
  have hc : Hid (∀ j (hj : j < (leN n).length), W2.cell? ((⟨w1.heap.size, 0, none⟩ : Addr).add j) = some (.int .u8 ((leN n)[j].toNat : Int))) := by
    unfold Hid
    intro j hj
    rw [hW2.out, addr_add, cell_of_row _ w1.heap.size (0 + j) _ 5 (0, 0) (heap_alloc_new w1 _), Nat.zero_add]
    have hj4 : j < 4 := hj
    rcases (show j = 0 ∨ j = 1 ∨ j = 2 ∨ j = 3 by omega) with rfl | rfl | rfl | rfl
    · simp [leN]
    · simp [leN]
    · simp [leN]
    · simp [leN]; omega
  have hbel : Hid (Below w1.heap.size w1 W2) := by unfold Hid; rw [hW2.out]; exact (Below.refl _ w1).alloc (Nat.le_refl _) _
  have hcv : (Go.convert 33 9 (.slice (some ⟨w1.heap.size, 0, none⟩) 4 4)).run Try.prog W2 = .ok (.string ⟨(leN n).toArray⟩) W2 := run_convert_bytes_back W2 33 9 5 ⟨w1.heap.size, 0, none⟩ 4 (leN n) Try.underlying33 Try.underlying5 Try.underlying9 hc.out
  have e2 := hW2.out
  subst e2
  clear hW2
  have hmk : ∀ w, (Instr.makeSlice 33 (.int .i64 4) (.int .i64 4)).run Try.prog w = .ok (.slice (some ⟨w.heap.size, 0, none⟩) 4 4) (w.alloc (.cells #[.int .u8 0, .int .u8 0, .int .u8 0, .int .u8 0] 5)) := fun _ => by kernel_rfl
  go_enter Try.func20, Try.ntmps20
  go_wp2
  go_rounds 5
  go_ret
  exact ⟨rfl, hbel.out⟩

theorem leN_length (n : Nat) : (leN n).length = 4 := rfl
theorem str_append (s : ByteArray) (l : List UInt8) : s ++ (⟨l.toArray⟩ : ByteArray) = ⟨(s.data.toList ++ l).toArray⟩ := by
  apply ByteArray.ext
  rw [ByteArray.data_append]
  apply Array.ext'
  simp
theorem size_append_leN (s : ByteArray) (hs : s.size ≤ 1000) (n : Nat) : ¬ 9223372036854775807 < s.size + (leN n).length := by rw [leN_length]; omega
theorem ret_str {a b : ByteArray} (h : a = b) : Ending.returned (.string a) = .returned (.string b) := by rw [h]

set_option maxHeartbeats 400000 in
theorem put_any (s : ByteArray) (hs : s.size ≤ 1000) (w : World) :
    Calls Try.prog 13 #[.string s] w fun e w' => e = .returned (.string ⟨(s.data.toList ++ leN (crcN s.data.toList)).toArray⟩) ∧ Below w.heap.size w w' := by
  go_enter Try.func13, Try.ntmps13
  go_wp2_with fail
  refine (tail_any s (by omega) _).mono ?_
  rintro e w1 ⟨rfl, hb⟩
  have HB := Lib.hid hb
  clear hb
  have h4 := size_append_leN s hs (crcN s.data.toList)
  go_wp2
  go_ret
  exact ⟨ret_str (str_append s _), HB.out⟩
theorem rput_any (s : ByteArray) (hs : s.size ≤ 1000) (w : World) :
    Calls Try.prog 14 #[.string s] w fun e w' => e = .returned (.string ⟨(s.data.toList ++ leN (crcN s.data.toList)).toArray⟩) ∧ Below w.heap.size w w' := by
  have hn := crcN_lt s.data.toList
  go_enter Try.func14, Try.ntmps14
  go_wp2_with fail
  refine (rcrc_any s (by omega) _).mono ?_
  rintro e w1 ⟨rfl, hb⟩
  go_wp2_with fail
  refine (little_any _ hn _).mono ?_
  rintro e w2 ⟨rfl, hb2⟩
  have HB := Lib.hid (hb.trans (hb2.mono hb.size))
  clear hb hb2
  have h4 := size_append_leN s hs (crcN s.data.toList)
  go_wp2
  go_ret
  exact ⟨ret_str (str_append s _), HB.out⟩
end Go.Proofs.Ytmmgnjgnjgjhmaa
