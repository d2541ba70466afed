/- The law ShaKnown walked: it returns true at any number, and no memory that was there is changed. -/
import Derived.Test.YtjkbbndiickcnaaDoorKnown
import Derived.Deep.RegionHeld3
namespace Go.Proofs.YtjkbbndiickcnaaDoor
open Go.RowKit
set_option linter.unusedVariables false
theorem below_step {w a b : World} (h : Below w.heap.size w a) (k : Below a.heap.size a b) : Below w.heap.size w b := h.trans (k.mono h.size)
def tx0 : List UInt8 := [97, 98, 99]
def hx0 : List UInt8 := [98, 97, 55, 56, 49, 54, 98, 102, 56, 102, 48, 49, 99, 102, 101, 97, 52, 49, 52, 49, 52, 48, 100, 101, 53, 100, 97, 101, 50, 50, 50, 51, 98, 48, 48, 51, 54, 49, 97, 51, 57, 54, 49, 55, 55, 97, 57, 99, 98, 52, 49, 48, 102, 102, 54, 49, 102, 50, 48, 48, 49, 53, 97, 100]
theorem known0 : hex (sha tx0) = hx0 := by decide +kernel
def tx1 : List UInt8 := [97, 98, 99, 100, 98, 99, 100, 101, 99, 100, 101, 102, 100, 101, 102, 103, 101, 102, 103, 104, 102, 103, 104, 105, 103, 104, 105, 106, 104, 105, 106, 107, 105, 106, 107, 108, 106, 107, 108, 109, 107, 108, 109, 110, 108, 109, 110, 111, 109, 110, 111, 112, 110, 111, 112, 113]
def hx1 : List UInt8 := [50, 52, 56, 100, 54, 97, 54, 49, 100, 50, 48, 54, 51, 56, 98, 56, 101, 53, 99, 48, 50, 54, 57, 51, 48, 99, 51, 101, 54, 48, 51, 57, 97, 51, 51, 99, 101, 52, 53, 57, 54, 52, 102, 102, 50, 49, 54, 55, 102, 54, 101, 99, 101, 100, 100, 52, 49, 57, 100, 98, 48, 54, 99, 49]
theorem known1 : hex (sha tx1) = hx1 := by decide +kernel
def tx2 : List UInt8 := [84, 104, 101, 32, 113, 117, 105, 99, 107, 32, 98, 114, 111, 119, 110, 32, 102, 111, 120, 32, 106, 117, 109, 112, 115, 32, 111, 118, 101, 114, 32, 116, 104, 101, 32, 108, 97, 122, 121, 32, 100, 111, 103]
def hx2 : List UInt8 := [100, 55, 97, 56, 102, 98, 98, 51, 48, 55, 100, 55, 56, 48, 57, 52, 54, 57, 99, 97, 57, 97, 98, 99, 98, 48, 48, 56, 50, 101, 52, 102, 56, 100, 53, 54, 53, 49, 101, 52, 54, 100, 51, 99, 100, 98, 55, 54, 50, 100, 48, 50, 100, 48, 98, 102, 51, 55, 99, 57, 101, 53, 57, 50]
theorem known2 : hex (sha tx2) = hx2 := by decide +kernel
set_option maxRecDepth 100000 in
set_option maxHeartbeats 1000000 in
theorem known_law (n : Nat) (hn : n < 256) (w : World) (hG : Glob w) : Calls Tryd.prog 4 #[.int .u8 n] w fun e w' => e = .returned (.bool true) ∧ Below w.heap.size w w' := by
  have hA := heap_alloc2_old w (.cells #[.string ⟨tx0.toArray⟩, .string ⟨tx1.toArray⟩, .string ⟨tx2.toArray⟩] 9) (.cells #[.string ⟨hx0.toArray⟩, .string ⟨hx1.toArray⟩, .string ⟨hx2.toArray⟩] 9)
  have hB := heap_alloc2_new w (.cells #[.string ⟨tx0.toArray⟩, .string ⟨tx1.toArray⟩, .string ⟨tx2.toArray⟩] 9) (.cells #[.string ⟨hx0.toArray⟩, .string ⟨hx1.toArray⟩, .string ⟨hx2.toArray⟩] 9)
  have hBl : Below w.heap.size w ((w.alloc (.cells #[.string ⟨tx0.toArray⟩, .string ⟨tx1.toArray⟩, .string ⟨tx2.toArray⟩] 9)).alloc (.cells #[.string ⟨hx0.toArray⟩, .string ⟨hx1.toArray⟩, .string ⟨hx2.toArray⟩] 9)) := ((Below.refl _ w).alloc (Nat.le_refl _) _).alloc (by simp) _
  obtain ⟨w0, hw0⟩ : ∃ w0, Hid (w0 = (w.alloc (.cells #[.string ⟨tx0.toArray⟩, .string ⟨tx1.toArray⟩, .string ⟨tx2.toArray⟩] 9)).alloc (.cells #[.string ⟨hx0.toArray⟩, .string ⟨hx1.toArray⟩, .string ⟨hx2.toArray⟩] 9)) := ⟨_, Lib.hid rfl⟩
  rw [← hw0.out] at hA hB hBl
  have hz0 : w0.heap.size = w.heap.size + 2 := by rw [hw0.out]; simp
  have HA := Lib.hid hA
  have HB := Lib.hid hB
  have HBl := Lib.hid hBl
  have HG0 := Lib.hid (hG.below hBl)
  have HZ := Lib.hid hz0
  clear hA hB hBl hG hz0
  go_enter Tryd.func4, Tryd.ntmps4
  go_wp2_with fail
  refine Calls.mono (R := fun e w' => e = .returned (.slice (some ⟨w.heap.size + 2, 0, none⟩) 64 64) ∧ Row w' (w.heap.size + 2) 53 .u32 64 kN ∧ Below w0.heap.size w0 w') ?_ ?_
  · have h := consts_any w0 HG0.out
    rw [HZ.out] at h
    rw [HZ.out]
    rw [hw0.out] at h ⊢
    exact h
  rintro e w1 ⟨rfl, hrow, hb1⟩
  have k0 : w1.cell? ⟨w.heap.size + 2, 0, none⟩ = some (.int .u32 1116352408) := hrow.cell 0 (by omega)
  have k1 : w1.cell? ⟨w.heap.size + 2, 1, none⟩ = some (.int .u32 1899447441) := hrow.cell 1 (by omega)
  have k63 : w1.cell? ⟨w.heap.size + 2, 63, none⟩ = some (.int .u32 3329325298) := hrow.cell 63 (by omega)
  have HA1 : Hid (w1.heap[w.heap.size]? = _) := Lib.hid ((hb1.block w.heap.size (by rw [HZ.out]; omega)).trans HA.out)
  have HB1 : Hid (w1.heap[w.heap.size + 1]? = _) := Lib.hid ((hb1.block (w.heap.size + 1) (by rw [HZ.out]; omega)).trans HB.out)
  have HBl1 := Lib.hid (HBl.out.trans (hb1.mono HBl.out.size))
  have hG1 := HG0.out.below hb1
  have hz1 : Hid (w.heap.size + 2 < w1.heap.size) := Lib.hid hrow.lt
  clear hb1 HBl HA HB HG0 HZ hrow hw0
  clear w0
  rcases (show n % 3 = 0 ∨ n % 3 = 1 ∨ n % 3 = 2 by omega) with h3 | h3 | h3
  · have hm : (n : Int) % 3 = 0 := by omega
    have q0 : w1.cell? ⟨w.heap.size, 0, none⟩ = some (.string ⟨tx0.toArray⟩) := by rw [cell_of_row _ _ _ _ _ _ HA1.out]; rfl
    have q1 : w1.cell? ⟨w.heap.size + 1, 0, none⟩ = some (.string ⟨hx0.toArray⟩) := by rw [cell_of_row _ _ _ _ _ _ HB1.out]; rfl
    have HSUM := Lib.hid (fun w hG => sum_any ⟨tx0.toArray⟩ (by decide) w hG)
    have HHEX := Lib.hid (fun w => hex_sha tx0 w)
    rw [known0] at HHEX
    rw [show (⟨tx0.toArray⟩ : ByteArray).data.toList = tx0 from rfl] at HSUM
    obtain ⟨t, ht⟩ : ∃ t : ByteArray, Hid (t = ⟨tx0.toArray⟩) := ⟨_, Lib.hid rfl⟩
    obtain ⟨h, hh⟩ : ∃ h : ByteArray, Hid (h = ⟨hx0.toArray⟩) := ⟨_, Lib.hid rfl⟩
    obtain ⟨u, hu⟩ : ∃ u : ByteArray, Hid (u = ⟨(sha tx0).toArray⟩) := ⟨_, Lib.hid rfl⟩
    rw [← ht.out] at q0 HSUM
    rw [← hh.out] at q1 HHEX
    rw [← hu.out] at HSUM HHEX
    clear ht hh hu h3 HA1 HB1
    have HKP : Hid (∀ wa wb, (wa.cell? ⟨w.heap.size, 0, none⟩ = some (.string t) ∧ wa.cell? ⟨w.heap.size + 1, 0, none⟩ = some (.string h) ∧ wa.cell? ⟨w.heap.size + 2, 0, none⟩ = some (.int .u32 1116352408) ∧ wa.cell? ⟨w.heap.size + 2, 1, none⟩ = some (.int .u32 1899447441) ∧ wa.cell? ⟨w.heap.size + 2, 63, none⟩ = some (.int .u32 3329325298) ∧ Glob wa ∧ Below w.heap.size w wa ∧ w.heap.size + 2 < wa.heap.size) → Below wa.heap.size wa wb → (wb.cell? ⟨w.heap.size, 0, none⟩ = some (.string t) ∧ wb.cell? ⟨w.heap.size + 1, 0, none⟩ = some (.string h) ∧ wb.cell? ⟨w.heap.size + 2, 0, none⟩ = some (.int .u32 1116352408) ∧ wb.cell? ⟨w.heap.size + 2, 1, none⟩ = some (.int .u32 1899447441) ∧ wb.cell? ⟨w.heap.size + 2, 63, none⟩ = some (.int .u32 3329325298) ∧ Glob wb ∧ Below w.heap.size w wb ∧ w.heap.size + 2 < wb.heap.size)) := by
      rintro wa wb ⟨a1, a2, a3, a4, a5, a6, a7, a8⟩ hb
      exact ⟨(hb.cell (p := ⟨w.heap.size, 0, none⟩) (Nat.lt_of_le_of_lt (Nat.le_add_right _ _) a8)).trans a1, (hb.cell (p := ⟨w.heap.size + 1, 0, none⟩) (by show w.heap.size + 1 < _; omega)).trans a2, (hb.cell (p := ⟨w.heap.size + 2, 0, none⟩) a8).trans a3, (hb.cell (p := ⟨w.heap.size + 2, 1, none⟩) a8).trans a4, (hb.cell (p := ⟨w.heap.size + 2, 63, none⟩) a8).trans a5, a6.below hb, below_step a7 hb, Nat.lt_of_lt_of_le a8 hb.size⟩
    have SB : Hid (w1.cell? ⟨w.heap.size, 0, none⟩ = some (.string t) ∧ w1.cell? ⟨w.heap.size + 1, 0, none⟩ = some (.string h) ∧ w1.cell? ⟨w.heap.size + 2, 0, none⟩ = some (.int .u32 1116352408) ∧ w1.cell? ⟨w.heap.size + 2, 1, none⟩ = some (.int .u32 1899447441) ∧ w1.cell? ⟨w.heap.size + 2, 63, none⟩ = some (.int .u32 3329325298) ∧ Glob w1 ∧ Below w.heap.size w w1 ∧ w.heap.size + 2 < w1.heap.size) := ⟨q0, q1, k0, k1, k63, hG1, HBl1.out, hz1.out⟩
    have SD : Hid (w1.drew.cell? ⟨w.heap.size, 0, none⟩ = some (.string t) ∧ w1.drew.cell? ⟨w.heap.size + 1, 0, none⟩ = some (.string h) ∧ w1.drew.cell? ⟨w.heap.size + 2, 0, none⟩ = some (.int .u32 1116352408) ∧ w1.drew.cell? ⟨w.heap.size + 2, 1, none⟩ = some (.int .u32 1899447441) ∧ w1.drew.cell? ⟨w.heap.size + 2, 63, none⟩ = some (.int .u32 3329325298) ∧ Glob w1.drew ∧ Below w.heap.size w w1.drew ∧ w.heap.size + 2 < w1.drew.heap.size) := ⟨q0, q1, k0, k1, k63, hG1, HBl1.out.drew, hz1.out⟩
    go_wp2
    go_region_held3 (fun w' => w'.cell? ⟨w.heap.size, 0, none⟩ = some (.string t) ∧ w'.cell? ⟨w.heap.size + 1, 0, none⟩ = some (.string h) ∧ w'.cell? ⟨w.heap.size + 2, 0, none⟩ = some (.int .u32 1116352408) ∧ w'.cell? ⟨w.heap.size + 2, 1, none⟩ = some (.int .u32 1899447441) ∧ w'.cell? ⟨w.heap.size + 2, 63, none⟩ = some (.int .u32 3329325298) ∧ Glob w' ∧ Below w.heap.size w w' ∧ w.heap.size + 2 < w'.heap.size) (first | exact SD.out | exact SB.out | exact HKP.out _ _ SD.out hbx | exact HKP.out _ _ SB.out hbx | exact HKP.out _ _ (by assumption) hbx) (first | (go_at_call 9; (with_reducible refine (HSUM.out _ ?_).mono ?_); (first | exact hG1 | (go_split_ands; assumption)); rintro e w' ⟨rfl, hbx⟩) | (go_at_call 12; (with_reducible refine (HHEX.out _).mono ?_); rintro e w' ⟨rfl, hbx⟩) | (go_at_call 8; (with_reducible refine (awake_ok _ ?_).mono ?_); (first | exact hG1 | (go_split_ands; assumption)); rintro e w' ⟨rfl, hbx⟩))
    have HF : Hid (Below w.heap.size w w') := by go_split_ands; assumption
    rename_i hHeld
    clear hHeld
    go_wp2
    go_ret
    exact ⟨rfl, HF.out⟩
  · have hm : (n : Int) % 3 = 1 := by omega
    have q0 : w1.cell? ⟨w.heap.size, 1, none⟩ = some (.string ⟨tx1.toArray⟩) := by rw [cell_of_row _ _ _ _ _ _ HA1.out]; rfl
    have q1 : w1.cell? ⟨w.heap.size + 1, 1, none⟩ = some (.string ⟨hx1.toArray⟩) := by rw [cell_of_row _ _ _ _ _ _ HB1.out]; rfl
    have HSUM := Lib.hid (fun w hG => sum_any ⟨tx1.toArray⟩ (by decide) w hG)
    have HHEX := Lib.hid (fun w => hex_sha tx1 w)
    rw [known1] at HHEX
    rw [show (⟨tx1.toArray⟩ : ByteArray).data.toList = tx1 from rfl] at HSUM
    obtain ⟨t, ht⟩ : ∃ t : ByteArray, Hid (t = ⟨tx1.toArray⟩) := ⟨_, Lib.hid rfl⟩
    obtain ⟨h, hh⟩ : ∃ h : ByteArray, Hid (h = ⟨hx1.toArray⟩) := ⟨_, Lib.hid rfl⟩
    obtain ⟨u, hu⟩ : ∃ u : ByteArray, Hid (u = ⟨(sha tx1).toArray⟩) := ⟨_, Lib.hid rfl⟩
    rw [← ht.out] at q0 HSUM
    rw [← hh.out] at q1 HHEX
    rw [← hu.out] at HSUM HHEX
    clear ht hh hu h3 HA1 HB1
    have HKP : Hid (∀ wa wb, (wa.cell? ⟨w.heap.size, 1, none⟩ = some (.string t) ∧ wa.cell? ⟨w.heap.size + 1, 1, none⟩ = some (.string h) ∧ wa.cell? ⟨w.heap.size + 2, 0, none⟩ = some (.int .u32 1116352408) ∧ wa.cell? ⟨w.heap.size + 2, 1, none⟩ = some (.int .u32 1899447441) ∧ wa.cell? ⟨w.heap.size + 2, 63, none⟩ = some (.int .u32 3329325298) ∧ Glob wa ∧ Below w.heap.size w wa ∧ w.heap.size + 2 < wa.heap.size) → Below wa.heap.size wa wb → (wb.cell? ⟨w.heap.size, 1, none⟩ = some (.string t) ∧ wb.cell? ⟨w.heap.size + 1, 1, none⟩ = some (.string h) ∧ wb.cell? ⟨w.heap.size + 2, 0, none⟩ = some (.int .u32 1116352408) ∧ wb.cell? ⟨w.heap.size + 2, 1, none⟩ = some (.int .u32 1899447441) ∧ wb.cell? ⟨w.heap.size + 2, 63, none⟩ = some (.int .u32 3329325298) ∧ Glob wb ∧ Below w.heap.size w wb ∧ w.heap.size + 2 < wb.heap.size)) := by
      rintro wa wb ⟨a1, a2, a3, a4, a5, a6, a7, a8⟩ hb
      exact ⟨(hb.cell (p := ⟨w.heap.size, 1, none⟩) (Nat.lt_of_le_of_lt (Nat.le_add_right _ _) a8)).trans a1, (hb.cell (p := ⟨w.heap.size + 1, 1, none⟩) (by show w.heap.size + 1 < _; omega)).trans a2, (hb.cell (p := ⟨w.heap.size + 2, 0, none⟩) a8).trans a3, (hb.cell (p := ⟨w.heap.size + 2, 1, none⟩) a8).trans a4, (hb.cell (p := ⟨w.heap.size + 2, 63, none⟩) a8).trans a5, a6.below hb, below_step a7 hb, Nat.lt_of_lt_of_le a8 hb.size⟩
    have SB : Hid (w1.cell? ⟨w.heap.size, 1, none⟩ = some (.string t) ∧ w1.cell? ⟨w.heap.size + 1, 1, none⟩ = some (.string h) ∧ w1.cell? ⟨w.heap.size + 2, 0, none⟩ = some (.int .u32 1116352408) ∧ w1.cell? ⟨w.heap.size + 2, 1, none⟩ = some (.int .u32 1899447441) ∧ w1.cell? ⟨w.heap.size + 2, 63, none⟩ = some (.int .u32 3329325298) ∧ Glob w1 ∧ Below w.heap.size w w1 ∧ w.heap.size + 2 < w1.heap.size) := ⟨q0, q1, k0, k1, k63, hG1, HBl1.out, hz1.out⟩
    have SD : Hid (w1.drew.cell? ⟨w.heap.size, 1, none⟩ = some (.string t) ∧ w1.drew.cell? ⟨w.heap.size + 1, 1, none⟩ = some (.string h) ∧ w1.drew.cell? ⟨w.heap.size + 2, 0, none⟩ = some (.int .u32 1116352408) ∧ w1.drew.cell? ⟨w.heap.size + 2, 1, none⟩ = some (.int .u32 1899447441) ∧ w1.drew.cell? ⟨w.heap.size + 2, 63, none⟩ = some (.int .u32 3329325298) ∧ Glob w1.drew ∧ Below w.heap.size w w1.drew ∧ w.heap.size + 2 < w1.drew.heap.size) := ⟨q0, q1, k0, k1, k63, hG1, HBl1.out.drew, hz1.out⟩
    go_wp2
    go_region_held3 (fun w' => w'.cell? ⟨w.heap.size, 1, none⟩ = some (.string t) ∧ w'.cell? ⟨w.heap.size + 1, 1, none⟩ = some (.string h) ∧ w'.cell? ⟨w.heap.size + 2, 0, none⟩ = some (.int .u32 1116352408) ∧ w'.cell? ⟨w.heap.size + 2, 1, none⟩ = some (.int .u32 1899447441) ∧ w'.cell? ⟨w.heap.size + 2, 63, none⟩ = some (.int .u32 3329325298) ∧ Glob w' ∧ Below w.heap.size w w' ∧ w.heap.size + 2 < w'.heap.size) (first | exact SD.out | exact SB.out | exact HKP.out _ _ SD.out hbx | exact HKP.out _ _ SB.out hbx | exact HKP.out _ _ (by assumption) hbx) (first | (go_at_call 9; (with_reducible refine (HSUM.out _ ?_).mono ?_); (first | exact hG1 | (go_split_ands; assumption)); rintro e w' ⟨rfl, hbx⟩) | (go_at_call 12; (with_reducible refine (HHEX.out _).mono ?_); rintro e w' ⟨rfl, hbx⟩) | (go_at_call 8; (with_reducible refine (awake_ok _ ?_).mono ?_); (first | exact hG1 | (go_split_ands; assumption)); rintro e w' ⟨rfl, hbx⟩))
    have HF : Hid (Below w.heap.size w w') := by go_split_ands; assumption
    rename_i hHeld
    clear hHeld
    go_wp2
    go_ret
    exact ⟨rfl, HF.out⟩
  · have hm : (n : Int) % 3 = 2 := by omega
    have q0 : w1.cell? ⟨w.heap.size, 2, none⟩ = some (.string ⟨tx2.toArray⟩) := by rw [cell_of_row _ _ _ _ _ _ HA1.out]; rfl
    have q1 : w1.cell? ⟨w.heap.size + 1, 2, none⟩ = some (.string ⟨hx2.toArray⟩) := by rw [cell_of_row _ _ _ _ _ _ HB1.out]; rfl
    have HSUM := Lib.hid (fun w hG => sum_any ⟨tx2.toArray⟩ (by decide) w hG)
    have HHEX := Lib.hid (fun w => hex_sha tx2 w)
    rw [known2] at HHEX
    rw [show (⟨tx2.toArray⟩ : ByteArray).data.toList = tx2 from rfl] at HSUM
    obtain ⟨t, ht⟩ : ∃ t : ByteArray, Hid (t = ⟨tx2.toArray⟩) := ⟨_, Lib.hid rfl⟩
    obtain ⟨h, hh⟩ : ∃ h : ByteArray, Hid (h = ⟨hx2.toArray⟩) := ⟨_, Lib.hid rfl⟩
    obtain ⟨u, hu⟩ : ∃ u : ByteArray, Hid (u = ⟨(sha tx2).toArray⟩) := ⟨_, Lib.hid rfl⟩
    rw [← ht.out] at q0 HSUM
    rw [← hh.out] at q1 HHEX
    rw [← hu.out] at HSUM HHEX
    clear ht hh hu h3 HA1 HB1
    have HKP : Hid (∀ wa wb, (wa.cell? ⟨w.heap.size, 2, none⟩ = some (.string t) ∧ wa.cell? ⟨w.heap.size + 1, 2, none⟩ = some (.string h) ∧ wa.cell? ⟨w.heap.size + 2, 0, none⟩ = some (.int .u32 1116352408) ∧ wa.cell? ⟨w.heap.size + 2, 1, none⟩ = some (.int .u32 1899447441) ∧ wa.cell? ⟨w.heap.size + 2, 63, none⟩ = some (.int .u32 3329325298) ∧ Glob wa ∧ Below w.heap.size w wa ∧ w.heap.size + 2 < wa.heap.size) → Below wa.heap.size wa wb → (wb.cell? ⟨w.heap.size, 2, none⟩ = some (.string t) ∧ wb.cell? ⟨w.heap.size + 1, 2, none⟩ = some (.string h) ∧ wb.cell? ⟨w.heap.size + 2, 0, none⟩ = some (.int .u32 1116352408) ∧ wb.cell? ⟨w.heap.size + 2, 1, none⟩ = some (.int .u32 1899447441) ∧ wb.cell? ⟨w.heap.size + 2, 63, none⟩ = some (.int .u32 3329325298) ∧ Glob wb ∧ Below w.heap.size w wb ∧ w.heap.size + 2 < wb.heap.size)) := by
      rintro wa wb ⟨a1, a2, a3, a4, a5, a6, a7, a8⟩ hb
      exact ⟨(hb.cell (p := ⟨w.heap.size, 2, none⟩) (Nat.lt_of_le_of_lt (Nat.le_add_right _ _) a8)).trans a1, (hb.cell (p := ⟨w.heap.size + 1, 2, none⟩) (by show w.heap.size + 1 < _; omega)).trans a2, (hb.cell (p := ⟨w.heap.size + 2, 0, none⟩) a8).trans a3, (hb.cell (p := ⟨w.heap.size + 2, 1, none⟩) a8).trans a4, (hb.cell (p := ⟨w.heap.size + 2, 63, none⟩) a8).trans a5, a6.below hb, below_step a7 hb, Nat.lt_of_lt_of_le a8 hb.size⟩
    have SB : Hid (w1.cell? ⟨w.heap.size, 2, none⟩ = some (.string t) ∧ w1.cell? ⟨w.heap.size + 1, 2, none⟩ = some (.string h) ∧ w1.cell? ⟨w.heap.size + 2, 0, none⟩ = some (.int .u32 1116352408) ∧ w1.cell? ⟨w.heap.size + 2, 1, none⟩ = some (.int .u32 1899447441) ∧ w1.cell? ⟨w.heap.size + 2, 63, none⟩ = some (.int .u32 3329325298) ∧ Glob w1 ∧ Below w.heap.size w w1 ∧ w.heap.size + 2 < w1.heap.size) := ⟨q0, q1, k0, k1, k63, hG1, HBl1.out, hz1.out⟩
    have SD : Hid (w1.drew.cell? ⟨w.heap.size, 2, none⟩ = some (.string t) ∧ w1.drew.cell? ⟨w.heap.size + 1, 2, none⟩ = some (.string h) ∧ w1.drew.cell? ⟨w.heap.size + 2, 0, none⟩ = some (.int .u32 1116352408) ∧ w1.drew.cell? ⟨w.heap.size + 2, 1, none⟩ = some (.int .u32 1899447441) ∧ w1.drew.cell? ⟨w.heap.size + 2, 63, none⟩ = some (.int .u32 3329325298) ∧ Glob w1.drew ∧ Below w.heap.size w w1.drew ∧ w.heap.size + 2 < w1.drew.heap.size) := ⟨q0, q1, k0, k1, k63, hG1, HBl1.out.drew, hz1.out⟩
    go_wp2
    go_region_held3 (fun w' => w'.cell? ⟨w.heap.size, 2, none⟩ = some (.string t) ∧ w'.cell? ⟨w.heap.size + 1, 2, none⟩ = some (.string h) ∧ w'.cell? ⟨w.heap.size + 2, 0, none⟩ = some (.int .u32 1116352408) ∧ w'.cell? ⟨w.heap.size + 2, 1, none⟩ = some (.int .u32 1899447441) ∧ w'.cell? ⟨w.heap.size + 2, 63, none⟩ = some (.int .u32 3329325298) ∧ Glob w' ∧ Below w.heap.size w w' ∧ w.heap.size + 2 < w'.heap.size) (first | exact SD.out | exact SB.out | exact HKP.out _ _ SD.out hbx | exact HKP.out _ _ SB.out hbx | exact HKP.out _ _ (by assumption) hbx) (first | (go_at_call 9; (with_reducible refine (HSUM.out _ ?_).mono ?_); (first | exact hG1 | (go_split_ands; assumption)); rintro e w' ⟨rfl, hbx⟩) | (go_at_call 12; (with_reducible refine (HHEX.out _).mono ?_); rintro e w' ⟨rfl, hbx⟩) | (go_at_call 8; (with_reducible refine (awake_ok _ ?_).mono ?_); (first | exact hG1 | (go_split_ands; assumption)); rintro e w' ⟨rfl, hbx⟩))
    have HF : Hid (Below w.heap.size w w') := by go_split_ands; assumption
    rename_i hHeld
    clear hHeld
    go_wp2
    go_ret
    exact ⟨rfl, HF.out⟩
end Go.Proofs.YtjkbbndiickcnaaDoor
