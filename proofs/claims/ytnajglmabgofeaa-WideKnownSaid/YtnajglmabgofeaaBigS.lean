/- Big and big of the document's package: bytes of a number, and back. No condition but that the number has 64 bits, the bytes are four or eight. -/
import Derived.Test.YtnajglmabgofeaaRConsts
import Derived.Test.YtnajglmabgofeaaBytes
import Derived.Test.YtnajglmabgofeaaWords
namespace Go.Proofs.Ytnajglmabgofeaa
open Go.RowKit
set_option linter.unusedVariables false
def bigTo (l : List UInt8) : Nat → Nat
  | 0 => 0
  | k + 1 => bigTo l k * 256 + (l.getD k 0).toNat
theorem bigTo_lt (l : List UInt8) : ∀ k, bigTo l k < 256 ^ k
  | 0 => by show 0 < 1; omega
  | k + 1 => by
    have h := bigTo_lt l k
    have hc := (l.getD k 0).toNat_lt
    show bigTo l k * 256 + _ < 256 ^ k * 256
    omega
theorem bigTo_be (l : List UInt8) : bigTo l 8 = be l 0 := by
  simp only [bigTo, be, Nat.mul_zero, Nat.zero_add, Nat.zero_mul]
  omega
set_option maxRecDepth 100000 in
set_option maxHeartbeats 1000000 in
theorem big_any (s : ByteArray) (hs : s.size = 8) (w : World) : Calls Try.prog 20 #[.string s] w fun e w' => e = .returned (.int .u64 (be s.data.toList 0)) ∧ w = w' := by
  obtain ⟨out, hout⟩ : ∃ out, Hid (out = be s.data.toList 0) := ⟨_, Lib.hid rfl⟩
  rw [← hout.out]
  have hsI : (s.size : Int) = 8 := by omega
  go_enter Try.func20, Try.ntmps20
  go_wp2
  go_loop [3, 4] (fun v i => ∃ k N : Nat, k ≤ 8 ∧ i = .int .i64 k ∧ v = .int .u64 N ∧ Hid (N = bigTo s.data.toList k)) (fun _ i => 8 - (intOf i).toNat)
  case atStart => exact ⟨0, 0, by omega, rfl, rfl, Lib.hid rfl⟩
  case round =>
    obtain ⟨k, N, hk, rfl, rfl, hN⟩ := hrel
    by_cases hlt : k < 8
    · have hks : k < s.size := by omega
      have hN4 : Hid (N < 72057594037927936) := by
        unfold Hid
        rw [hN.out]
        exact Nat.lt_of_lt_of_le (bigTo_lt _ k) (Nat.le_trans (Nat.pow_le_pow_right (by decide) (show k ≤ 7 by omega)) (by decide))
      obtain ⟨c, hc0⟩ : ∃ c, c = s[k].toNat := ⟨_, rfl⟩
      have hc : c < 256 := by rw [hc0]; exact UInt8.toNat_lt _
      have HST : Hid (N * 256 + c = bigTo s.data.toList (k + 1)) := by
        unfold Hid
        show _ = bigTo s.data.toList k * 256 + (s.data.toList.getD k 0).toNat
        rw [hc0, ← hN.out, List.getD_eq_getElem?_getD, List.getElem?_eq_getElem (show k < s.data.toList.length from hks)]
        rfl
      have hor := or_low N c hN4.out hc
      obtain ⟨M, hM⟩ : ∃ M, Hid (M = N * 256) := ⟨_, Lib.hid rfl⟩
      have hsh : IntKind.u64.wrap ((N : Int) * 2 ^ 8) = (M : Int) := by
        have h2 := hN4.out
        rw [show IntKind.u64.wrap ((N : Int) * 2 ^ 8) = ((N * 2 ^ 8 % 18446744073709551616 : Nat) : Int) from wrap64_shl N 8, hM.out]
        omega
      have hsh2 : IntKind.u64.wrap ((N : Int) * 256) = (M : Int) := hsh
      rw [← hM.out] at hor
      obtain ⟨R, hR⟩ : ∃ R, Hid (R = M + c) := ⟨_, Lib.hid rfl⟩
      rw [← hR.out] at hor
      have HST2 : Hid (R = bigTo s.data.toList (k + 1)) := by unfold Hid; rw [hR.out, hM.out]; exact HST.out
      clear hN HST hR hM
      have hcc : s[k].toNat = c := hc0.symm
      clear hc0
      go_wp2
      go_round
      case rel => exact ⟨k + 1, R, by omega, by go_num, rfl, HST2⟩
      case measure => simp [intOf]; omega
    · obtain rfl : k = 8 := by omega
      have he : N = out := by rw [hN.out, hout.out]; exact bigTo_be _
      subst he
      clear hout hN
      rw [show ((8 : Nat) : Int) = (8 : Int) from rfl]
      go_wp2
      go_ret
      exact ⟨rfl, rfl⟩
def bigL (n m : Nat) : List UInt8 := (List.range m).map fun j => UInt8.ofNat (n / 2 ^ (8 * (m - 1 - j)))
theorem bigL8 (n : Nat) : bigL n 8 = be8 n := by
  show [UInt8.ofNat (n / 2 ^ 56), UInt8.ofNat (n / 2 ^ 48), UInt8.ofNat (n / 2 ^ 40), UInt8.ofNat (n / 2 ^ 32), UInt8.ofNat (n / 2 ^ 24), UInt8.ofNat (n / 2 ^ 16), UInt8.ofNat (n / 2 ^ 8), UInt8.ofNat (n / 2 ^ 0)] = _
  rw [show n / 2 ^ 0 = n by rw [Nat.pow_zero, Nat.div_one]]
  rfl
def fTo (n m k j : Nat) : Nat := if j < k then n / 2 ^ (8 * (m - 1 - j)) % 256 else 0
theorem fTo_step (n m k v : Nat) (hv : v = n / 2 ^ (8 * (m - 1 - k)) % 256) : ∀ j, j < m → upd (fTo n m k) k v j = fTo n m (k + 1) j := by
  intro j _
  unfold upd fTo
  by_cases e : j = k
  · subst e; rw [if_pos rfl, if_pos (by omega), hv]
  · rw [if_neg e]
    by_cases h : j < k
    · rw [if_pos h, if_pos (by omega)]
    · rw [if_neg h, if_neg (by omega)]
theorem fTo_all (n m : Nat) : rowOf .u8 m (fTo n m m) = bytesV (bigL n m) := by
  apply List.ext_getElem?
  intro j
  by_cases hj : j < m
  · rw [rowOf_get _ _ _ _ hj]
    unfold bytesV bigL fTo
    rw [List.map_map, List.getElem?_map, List.getElem?_range hj, if_pos hj]
    simp [UInt8.toNat_ofNat']
  · rw [List.getElem?_eq_none (by rw [rowOf_length]; omega), List.getElem?_eq_none (by rw [bytesV_length]; unfold bigL; simp; omega)]
theorem make8 (W : World) : (Instr.makeSlice 29 (.int .i64 8) (.int .i64 8)).run Try.prog W = .ok (.slice (some ⟨W.heap.size, 0, none⟩) 8 8) (W.alloc (.cells (rowOf .u8 8 (fun _ => 0)).toArray 5)) := by kernel_rfl
set_option maxRecDepth 100000 in
set_option maxHeartbeats 1000000 in
theorem Big_walk (n m : Nat) (hm : m ≤ 8) (hm0 : 0 < m) (hmk : ∀ W : World, (Instr.makeSlice 29 (.int .i64 m) (.int .i64 m)).run Try.prog W = .ok (.slice (some ⟨W.heap.size, 0, none⟩) m m) (W.alloc (.cells (rowOf .u8 m (fun _ => 0)).toArray 5))) (w : World) :
    Calls Try.prog 19 #[.int .u64 n, .int .i64 m] w fun e w' => e = .returned (.string ⟨(bigL n m).toArray⟩) ∧ Below w.heap.size w w' := by
  obtain ⟨tl, htl⟩ : ∃ tl : ByteArray, Hid (tl = ⟨(bigL n m).toArray⟩) := ⟨_, Lib.hid rfl⟩
  rw [← htl.out]
  have hr0 : Hid (Row (w.alloc (.cells (rowOf .u8 m (fun _ => 0)).toArray 5)) w.heap.size 5 .u8 m (fTo n m 0)) := Lib.hid (Row.ext (Row.new w 5 .u8 m (fun _ => 0)) (fun j _ => rfl))
  obtain ⟨z, hz⟩ : ∃ z, Hid (z = (rowOf .u8 m (fun _ => 0)).toArray) := ⟨_, Lib.hid rfl⟩
  rw [← hz.out] at hr0
  have hmk2 : ∀ W : World, (Instr.makeSlice 29 (.int .i64 m) (.int .i64 m)).run Try.prog W = .ok (.slice (some ⟨W.heap.size, 0, none⟩) m m) (W.alloc (.cells z 5)) := by rw [hz.out]; exact hmk
  clear hmk
  go_enter Try.func19, Try.ntmps19
  go_wp2
  go_loopw [6] (fun i wr => ∃ k : Nat, k ≤ m ∧ i = .int .i64 k ∧ Row wr w.heap.size 5 .u8 m (fTo n m k) ∧ Below w.heap.size w wr) (fun i _ => m - (intOf i).toNat)
  case atStart => exact ⟨0, by omega, rfl, hr0.out, (Below.refl _ w).alloc (Nat.le_refl _) _⟩
  case round =>
    clear hr0
    obtain ⟨k, hk, rfl, hrow, hb⟩ := hrel
    have HR := Lib.hid hrow
    have HB := Lib.hid hb
    clear hrow hb
    by_cases hlt : k < m
    · obtain ⟨S, hS⟩ : ∃ S, Hid (S = 8 * (m - 1 - k)) := ⟨_, Lib.hid rfl⟩
      have hS1 : (8 : Int) * ((m : Int) - 1 - (k : Int)) = (S : Int) := by rw [hS.out]; omega
      have hS64 : S < 64 := by rw [hS.out]; omega
      obtain ⟨b, hb0⟩ : ∃ b, Hid (b = n / 2 ^ S % 256) := ⟨_, Lib.hid rfl⟩
      have hwr : IntKind.u8.wrap ((n : Int) / 2 ^ S) = (b : Int) := by
        rw [shr_cast, hb0.out]
        have h : ∀ x : Nat, IntKind.u8.wrap (x : Int) = (x : Int) % 256 := fun x => by simp [IntKind.wrap, IntKind.bits, IntKind.signed]
        rw [h]; omega
      have ck : wr.cell? ⟨w.heap.size, k, none⟩ = some (.int .u8 (fTo n m k k)) := HR.out.cell k hlt
      have fk : wr.frozen? ⟨w.heap.size, k, none⟩ = false := HR.out.free k
      have HN : Hid (Row (wr.setCell ⟨w.heap.size, k, none⟩ (.int .u8 b)) w.heap.size 5 .u8 m (fTo n m (k + 1))) := Lib.hid (Row.ext (Row.set (w := wr) HR.out k b) (fTo_step n m k b (by rw [hb0.out, hS.out])))
      have HN2 : Hid (Below w.heap.size w (wr.setCell ⟨w.heap.size, k, none⟩ (.int .u8 b))) := Lib.hid (HB.out.setCell (p := ⟨w.heap.size, k, none⟩) (Nat.le_refl _) _)
      generalize fTo n m k k = old at *
      have hltI : (k : Int) < m := by omega
      go_wp2
      go_roundw
      case rel => exact ⟨k + 1, by omega, by go_num, HN.out, HN2.out⟩
      case measure => simp [intOf]; omega
    · obtain rfl : k = m := by omega
      have hown : wr.ownsRow w.heap.size 5 1 (.slice (some ⟨w.heap.size, 0, none⟩) k k) k (bytesV (bigL n k)) := by
        rw [← fTo_all]
        exact ⟨by rw [rowOf_length]; omega, Or.inr ⟨w.heap.size, k, _, rfl, Nat.le_refl _, HR.out, Nat.le_refl _, by unfold maxLen; omega, by rw [rowOf_size]; omega, by rw [Nat.mul_one]; exact List.take_of_length_le (by rw [rowOf_length]; exact Nat.le_refl _)⟩⟩
      obtain ⟨g, cap, he, hcv⟩ := bytes_str hown hm0
      injection he with he1 _ he2
      injection he1 with he1
      injection he1 with he1
      subst he1
      subst he2
      rw [← htl.out] at hcv
      clear hown HR hmk2
      go_wp2
      go_ret
      exact ⟨rfl, HB.out⟩
theorem Big8 (n : Nat) (w : World) : Calls Try.prog 19 #[.int .u64 n, .int .i64 8] w fun e w' => e = .returned (.string ⟨(be8 n).toArray⟩) ∧ Below w.heap.size w w' := by
  have h := Big_walk n 8 (by omega) (by omega) make8 w
  rw [bigL8] at h
  exact h
end Go.Proofs.Ytnajglmabgofeaa
