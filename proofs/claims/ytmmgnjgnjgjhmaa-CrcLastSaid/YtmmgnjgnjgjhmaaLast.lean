/- The law CrcLast walked: it returns true at any text, any three bytes, and no memory that was there is changed. -/
import Derived.Test.YtmmgnjgnjgjhmaaMix
import Derived.Deep.RegionWith
import Derived.BigQuiet

namespace Go.Proofs.Ytmmgnjgnjgjhmaa
open Go.RowKit
set_option linter.unusedVariables false

theorem last_big (s : ByteArray) (hs : s.size ≤ 9223372036854775807) (a b n : Nat) (h : 300 < s.size) (w : World) :
    Calls Try.prog 7 #[.string s, .int .u8 a, .int .u8 b, .int .u8 n] w fun e w' => e = .returned (.bool true) ∧ Below w.heap.size w w' := by
  have hd : decide (300 < (s.size : Int)) = true := by simp; omega
  go_enter Try.func7, Try.ntmps7
  go_wp2_with (go_at_call 8; refine (awake_ok _).mono ?_; rintro e w1 ⟨rfl, hb⟩)
  go_ret
  exact ⟨rfl, hb⟩

theorem conv_one (a : Nat) (ha : a < 256) (W : World) (b : Nat) (h : W.cell? ⟨b, 0, none⟩ = some (.int .u8 (a : Int))) :
    (Go.convert 33 9 (.slice (some ⟨b, 0, none⟩) 1 1)).run Try.prog W = .ok (.string ⟨#[UInt8.ofNat a]⟩) W := by
  refine run_convert_bytes_back W 33 9 5 ⟨b, 0, none⟩ 1 [UInt8.ofNat a] Try.underlying33 Try.underlying5 Try.underlying9 (fun j hj => ?_)
  have hj0 : j = 0 := by simp at hj; exact hj
  subst hj0
  rw [addr_add, h]
  simp [Nat.mod_eq_of_lt ha]

theorem conv_zeros (m : Nat) (W : World) :
    (Go.convert 33 9 (.slice (some ⟨W.heap.size, 0, none⟩) m m)).run Try.prog (W.alloc (.cells (madeCells (Value.int .u8 0).cells m) 5)) = .ok (.string ⟨(List.replicate m 0).toArray⟩) (W.alloc (.cells (madeCells (Value.int .u8 0).cells m) 5)) := by
  have h := run_convert_bytes_back (W.alloc (.cells (madeCells (Value.int .u8 0).cells m) 5)) 33 9 5 ⟨W.heap.size, 0, none⟩ m (List.replicate m 0) Try.underlying33 Try.underlying5 Try.underlying9 (fun j hj => by
    rw [List.length_replicate] at hj
    rw [addr_add, Nat.zero_add, cell_of_row _ _ _ _ _ _ (heap_alloc_new W _), made_get (.int .u8 0) m j rfl hj]
    simp)
  rwa [List.length_replicate] at h

theorem xor_left {a b c : Nat} (h : a ^^^ b = a ^^^ c) : b = c := by
  have h2 := congrArg (fun x => a ^^^ x) h
  simpa [← Nat.xor_assoc] using h2
theorem zeros_not : ∀ m, m < 9 → 1 ≤ m → crcN (List.replicate m 0) ≠ 0 := by decide +kernel
theorem crcN_zero : crcN [0] = 3523407757 := by decide +kernel
theorem sum_zero (w : World) : Calls Try.prog 11 #[.string ⟨#[0]⟩] w fun e w' => e = .returned (.int .u32 3523407757) ∧ Below w.heap.size w w' := by
  refine (sum_any ⟨#[0]⟩ (by decide) w).mono ?_
  rintro e w' ⟨he, hb⟩
  refine ⟨?_, hb⟩
  rw [he]
  show Ending.returned (.int .u32 ((crcN [0] : Nat) : Int)) = _
  rw [crcN_zero]; rfl

theorem below_alloc {w a : World} (h : Below w.heap.size w a) (o : Obj) : Below w.heap.size w (a.alloc o) := h.alloc h.size _
theorem below_drew {w a : World} (h : Below w.heap.size w a) : Below w.heap.size w a.drew := h.drew
theorem below_refl (w : World) : Below w.heap.size w w := Below.refl _ _
theorem bcell {W w1 : World} (hb : Below W.heap.size W w1) : ∀ b o, b < W.heap.size → w1.cell? ⟨b, o, none⟩ = W.cell? ⟨b, o, none⟩ := fun b o h => hb.cell (p := ⟨b, o, none⟩) h

set_option maxRecDepth 100000 in
set_option maxHeartbeats 4000000 in
theorem last_walk (s SA SB Z : ByteArray) (hs : s.size ≤ 300) (M : Array Value) (a b n m X Y V : Nat) (c : Bool) (w : World) (hm : 1 + (n : Int) % 8 = (m : Int)) (hm9 : m < 9) (hn : n < 256)
    (hX : ((X : Int) == (Y : Int)) = c) (hab : ((a : Int) == (b : Int)) = c) (la : SA.size = 1) (lb : SB.size = 1)
    (hV : ((V : Int) != 0) = true)
    (CA : ∀ (W : World) (g : Nat), W.cell? ⟨g, 0, none⟩ = some (.int .u8 (a : Int)) → (Go.convert 33 9 (.slice (some ⟨g, 0, none⟩) 1 1)).run Try.prog W = .ok (.string SA) W)
    (CB : ∀ (W : World) (g : Nat), W.cell? ⟨g, 0, none⟩ = some (.int .u8 (b : Int)) → (Go.convert 33 9 (.slice (some ⟨g, 0, none⟩) 1 1)).run Try.prog W = .ok (.string SB) W)
    (hmk : ∀ W : World, (Instr.makeSlice 33 (.int .i64 (m : Int)) (.int .i64 (m : Int))).run Try.prog W = .ok (.slice (some ⟨W.heap.size, 0, none⟩) m m) (W.alloc (.cells (M) 5)))
    (CZ : ∀ W : World, (Go.convert 33 9 (.slice (some ⟨W.heap.size, 0, none⟩) m m)).run Try.prog (W.alloc (.cells (M) 5)) = .ok (.string Z) (W.alloc (.cells (M) 5)))
    (HA : Hid (∀ w : World, Calls Try.prog 11 #[.string (s ++ SA)] w fun e w' => e = .returned (.int .u32 X) ∧ Below w.heap.size w w'))
    (HB : Hid (∀ w : World, Calls Try.prog 11 #[.string (s ++ SB)] w fun e w' => e = .returned (.int .u32 Y) ∧ Below w.heap.size w w'))
    (HZ : Hid (∀ w : World, Calls Try.prog 11 #[.string Z] w fun e w' => e = .returned (.int .u32 V) ∧ Below w.heap.size w w')) :
    Calls Try.prog 7 #[.string s, .int .u8 a, .int .u8 b, .int .u8 n] w fun e w' => e = .returned (.bool true) ∧ Below w.heap.size w w' := by
  have hd : decide (300 < (s.size : Int)) = false := by simp; omega
  have hlt2 : ∀ n : Nat, n < n + 1 + 1 := fun n => by omega
  have hov : ¬ 9223372036854775807 < s.size + 1 := by omega
  have hB0 := Below.refl w.heap.size w
  go_enter Try.func7, Try.ntmps7
  go_wp2
  go_region_with (first | (go_at_call 11; (with_reducible refine (HA.out _).mono ?_); rintro e wA ⟨rfl, hbA⟩; have hcc := bcell hbA) | (go_at_call 11; (with_reducible refine (HB.out _).mono ?_); rintro e wB ⟨rfl, hbB⟩))
  all_goals
    have HW : Below w.heap.size w wB := by
      refine below_step ?_ hbB
      repeat (first | exact hB0 | (with_reducible exact below_refl _) | (with_reducible refine below_alloc ?_ _) | (with_reducible refine below_drew ?_) | (with_reducible refine below_step ?_ hbA))
    have HW := Lib.hid HW
    clear hB0 hbA hbB hcc hlt2 hov CA CB HA HB
    go_wp2_with fail
    refine (HZ.out _).mono ?_
    rintro e w2 ⟨rfl, hb2⟩
    have HW2 : Hid (Below w.heap.size w w2) := Lib.hid (below_step (below_alloc HW.out _) hb2)
    clear hb2 HW CZ hmk
    go_wp2_with fail
    refine (sum_zero _).mono ?_
    rintro e w3 ⟨rfl, hb3⟩
    have HW3 : Hid (Below w.heap.size w w3) := Lib.hid (below_step HW2.out hb3)
    clear hb3 HW2
    go_wp2_with fail
    refine (awake_ok _).mono ?_
    rintro e w4 ⟨rfl, hb4⟩
    have HW4 : Hid (Below w.heap.size w w4) := Lib.hid (below_step HW3.out hb4)
    clear hb4 HW3
    go_wp2
    go_ret
    exact ⟨rfl, HW4.out⟩

theorem make_bytes (m : Nat) (hm : m ≤ 1000) : ∀ W : World, (Instr.makeSlice 33 (.int .i64 (m : Int)) (.int .i64 (m : Int))).run Try.prog W = .ok (.slice (some ⟨W.heap.size, 0, none⟩) m m) (W.alloc (.cells (madeCells (Value.int .u8 0).cells m) 5)) := fun W => by
  obtain ⟨i0, hi, hz0, hz1, hz2⟩ := info_parts info5
  have h := run_make (P := Try.prog) W 33 5 i0 (.int .u8 0) Try.underlying33 hi hz0 .i64 .i64 (m : Int) (m : Int) (by omega) (by omega) (by rw [hz2]; omega) (by omega)
  rw [hz1] at h
  simpa using h

theorem last_law (s : ByteArray) (hs : s.size ≤ 9223372036854775807) (a b n : Nat) (ha : a < 256) (hb : b < 256) (hn : n < 256) (w : World) :
    Calls Try.prog 7 #[.string s, .int .u8 a, .int .u8 b, .int .u8 n] w fun e w' => e = .returned (.bool true) ∧ Below w.heap.size w w' := by
  by_cases h : 300 < s.size
  · exact last_big s hs a b n h w
  · have hmk := make_bytes (1 + n % 8) (by omega)
    have hab : (((crcN (s ++ ⟨#[UInt8.ofNat a]⟩ : ByteArray).data.toList : Nat) : Int) == ((crcN (s ++ ⟨#[UInt8.ofNat b]⟩ : ByteArray).data.toList : Nat) : Int)) = ((a : Int) == (b : Int)) := by
      have e : ∀ x : Nat, x < 256 → crcN (s ++ ⟨#[UInt8.ofNat x]⟩ : ByteArray).data.toList = 4294967295 ^^^ up (crcSt 4294967295 s.data.toList) x := by
        intro x hx
        rw [ByteArray.data_append]
        show crcN (s.data ++ #[UInt8.ofNat x]).toList = _
        rw [Array.toList_append]
        unfold crcN
        rw [crcSt_snoc]
        simp [Nat.mod_eq_of_lt hx]
      rw [e a ha, e b hb, Bool.eq_iff_iff, beq_iff_eq, beq_iff_eq]
      constructor
      · intro h2
        have h3 : 4294967295 ^^^ up (crcSt 4294967295 s.data.toList) a = 4294967295 ^^^ up (crcSt 4294967295 s.data.toList) b := by omega
        have h4 := xor_left h3
        unfold up at h4
        have h5 := tab_inj _ _ (Nat.xor_lt_two_pow (n := 8) (Nat.mod_lt _ (by omega)) ha) (Nat.xor_lt_two_pow (n := 8) (Nat.mod_lt _ (by omega)) hb) (xor_left h4)
        have h6 := xor_left h5
        omega
      · intro h2
        have h3 : a = b := by omega
        rw [h3]
    have hz : crcN (List.replicate (1 + n % 8) 0) ≠ 0 := zeros_not _ (by omega) (by omega)
    exact last_walk s ⟨#[UInt8.ofNat a]⟩ ⟨#[UInt8.ofNat b]⟩ ⟨(List.replicate (1 + n % 8) 0).toArray⟩ (by omega) _ a b n (1 + n % 8) _ _ _ _ w (by omega) (by omega) hn hab rfl rfl rfl
      (by rw [bne_iff_ne]; intro h2; exact hz (Int.ofNat_eq_zero.mp h2))
      (conv_one a ha) (conv_one b hb) hmk (conv_zeros _)
      (fun w => sum_any _ (by rw [ByteArray.size_append]; show s.size + 1 ≤ _; omega) w) (fun w => sum_any _ (by rw [ByteArray.size_append]; show s.size + 1 ≤ _; omega) w)
      (fun w => sum_any ⟨(List.replicate (1 + n % 8) 0).toArray⟩ (by show (List.replicate (1 + n % 8) (0 : UInt8)).length ≤ _; rw [List.length_replicate]; omega) w)


end Go.Proofs.Ytmmgnjgnjgjhmaa
