/- The law CodecKnown walked: it returns true at any number, and no memory that was there is changed. -/
import Derived.Test.YtkkdcecnegdipaaDoorG64
import Derived.Test.YtkkdcecnegdipaaDoorAwake
import Derived.Deep.RegionHeld3
namespace Go.Proofs.YtkkdcecnegdipaaDoor
open Go.RowKit Go.Shelf
set_option linter.unusedVariables false
theorem below_step {w a b : World} (h : Below w.heap.size w a) (k : Below a.heap.size a b) : Below w.heap.size w b := h.trans (k.mono h.size)
def shaL : List UInt8 := [227, 176, 196, 66, 152, 252, 28, 20, 154, 251, 244, 200, 153, 111, 185, 36, 39, 174, 65, 228, 100, 155, 147, 76, 164, 149, 153, 27, 120, 82, 184, 85]
theorem sha_cells : (#[.int .u8 227, .int .u8 176, .int .u8 196, .int .u8 66, .int .u8 152, .int .u8 252, .int .u8 28, .int .u8 20, .int .u8 154, .int .u8 251, .int .u8 244, .int .u8 200, .int .u8 153, .int .u8 111, .int .u8 185, .int .u8 36, .int .u8 39, .int .u8 174, .int .u8 65, .int .u8 228, .int .u8 100, .int .u8 155, .int .u8 147, .int .u8 76, .int .u8 164, .int .u8 149, .int .u8 153, .int .u8 27, .int .u8 120, .int .u8 82, .int .u8 184, .int .u8 85] : Array Value) = (shaL.map fun b => Value.int .u8 (b.toNat : Int)).toArray := rfl
theorem sha_conv (w : World) : (Go.convert 33 9 (.slice (some ⟨w.heap.size, 0, none⟩) 32 32)).run Tryd.prog (w.alloc (.cells #[.int .u8 227, .int .u8 176, .int .u8 196, .int .u8 66, .int .u8 152, .int .u8 252, .int .u8 28, .int .u8 20, .int .u8 154, .int .u8 251, .int .u8 244, .int .u8 200, .int .u8 153, .int .u8 111, .int .u8 185, .int .u8 36, .int .u8 39, .int .u8 174, .int .u8 65, .int .u8 228, .int .u8 100, .int .u8 155, .int .u8 147, .int .u8 76, .int .u8 164, .int .u8 149, .int .u8 153, .int .u8 27, .int .u8 120, .int .u8 82, .int .u8 184, .int .u8 85] 5)) = .ok (.string ⟨shaL.toArray⟩) (w.alloc (.cells #[.int .u8 227, .int .u8 176, .int .u8 196, .int .u8 66, .int .u8 152, .int .u8 252, .int .u8 28, .int .u8 20, .int .u8 154, .int .u8 251, .int .u8 244, .int .u8 200, .int .u8 153, .int .u8 111, .int .u8 185, .int .u8 36, .int .u8 39, .int .u8 174, .int .u8 65, .int .u8 228, .int .u8 100, .int .u8 155, .int .u8 147, .int .u8 76, .int .u8 164, .int .u8 149, .int .u8 153, .int .u8 27, .int .u8 120, .int .u8 82, .int .u8 184, .int .u8 85] 5)) := by
  rw [sha_cells]
  exact run_convert_bytes_back (P := Tryd.prog) _ 33 9 5 ⟨w.heap.size, 0, none⟩ 32 shaL Tryd.underlying33 Tryd.underlying5 Tryd.underlying9 (fun j hj => by
    rw [show (⟨w.heap.size, 0, none⟩ : Addr).add j = ⟨w.heap.size, j, none⟩ by unfold Addr.add; split <;> simp_all, Lib.cell_of_heap (World.alloc_heap_new w _)]
    simp [hj])
theorem four_cells (w : World) (A B C D : Obj) (w1 : World) (h : Below ((((w.alloc A).alloc B).alloc C).alloc D).heap.size ((((w.alloc A).alloc B).alloc C).alloc D) w1) : w1.heap[w.heap.size + 1]? = some B ∧ w1.heap[w.heap.size + 1 + 1]? = some C ∧ Below w.heap.size w w1 ∧ w.heap.size + 1 + 1 < w1.heap.size := by
  have hz : ((((w.alloc A).alloc B).alloc C).alloc D).heap.size = w.heap.size + 4 := by simp
  have hb : Below w.heap.size w ((((w.alloc A).alloc B).alloc C).alloc D) := ((((Below.refl _ w).alloc (Nat.le_refl _) _).alloc (by simp) _).alloc (by simp; omega) _).alloc (by simp; omega) _
  have hs := h.size
  have s1 : (w.alloc A).heap.size = w.heap.size + 1 := by simp
  have s2 : ((w.alloc A).alloc B).heap.size = w.heap.size + 1 + 1 := by simp
  have s3 : (((w.alloc A).alloc B).alloc C).heap.size = w.heap.size + 1 + 1 + 1 := by simp
  have n2 : ((w.alloc A).alloc B).heap[w.heap.size + 1]? = some B := by
    have := World.alloc_heap_new (w.alloc A) B
    rwa [s1] at this
  have n3 : (((w.alloc A).alloc B).alloc C).heap[w.heap.size + 1 + 1]? = some C := by
    have := World.alloc_heap_new ((w.alloc A).alloc B) C
    rwa [s2] at this
  have b2 : Below ((w.alloc A).alloc B).heap.size ((w.alloc A).alloc B) ((((w.alloc A).alloc B).alloc C).alloc D) := ((Below.refl _ _).alloc (Nat.le_refl _) C).alloc (by rw [s3, s2]; omega) D
  have b3 : Below (((w.alloc A).alloc B).alloc C).heap.size (((w.alloc A).alloc B).alloc C) ((((w.alloc A).alloc B).alloc C).alloc D) := (Below.refl _ _).alloc (Nat.le_refl _) D
  refine ⟨?_, ?_, hb.trans (h.mono hb.size), by omega⟩
  · rw [h.block _ (by omega), b2.block _ (by omega), n2]
  · rw [h.block _ (by omega), b3.block _ (by omega), n3]
theorem known32 : (b32 shaL).toArray = #[48, 109, 100, 113, 97, 57, 119, 49, 112, 54, 99, 109, 108, 105, 54, 57, 55, 54, 118, 52, 119, 105, 48, 115, 119, 57, 114, 52, 112, 53, 112, 114, 107, 106, 55, 108, 122, 102, 100, 49, 56, 55, 55, 119, 107, 49, 49, 99, 57, 99, 55, 51] := by decide +kernel
theorem known64 : (b64 []).toArray = #[] ∧ (b64 [102]).toArray = #[90, 103, 61, 61] ∧ (b64 [102, 111]).toArray = #[90, 109, 56, 61] ∧ (b64 [102, 111, 111]).toArray = #[90, 109, 57, 118] ∧ (b64 [102, 111, 111, 98]).toArray = #[90, 109, 57, 118, 89, 103, 61, 61] ∧ (b64 [102, 111, 111, 98, 97]).toArray = #[90, 109, 57, 118, 89, 109, 69, 61] ∧ (b64 [102, 111, 111, 98, 97, 114]).toArray = #[90, 109, 57, 118, 89, 109, 70, 121] := by decide +kernel
theorem knownBad : get64 [90, 103, 61] = none ∧ get64 [90, 104, 61, 61] = none ∧ get64 [90] = none ∧ get64 [90, 109, 56] = none ∧ get64 [61] = none ∧ get64 [90, 109, 57] = none ∧ get64 [90, 103, 61, 61, 61] = none := by decide +kernel

set_option maxRecDepth 100000 in
set_option maxHeartbeats 1000000 in
theorem known_at0 (n : Nat) (hn : n < 256) (w : World) (hm : (n : Int) % 7 = 0) : Calls Tryd.prog 5 #[.int .u8 (n : Int)] w fun e w' => e = .returned (.bool true) ∧ Below w.heap.size w w' := by
  have hcv0 : IntKind.i64.wrap (n : Int) = (n : Int) := by rw [IntKind.wrap_i64]; omega
  have hcv := sha_conv w
  have hbad : ∀ w, Calls Tryd.prog 9 #[.string ⟨#[90, 103, 61]⟩] w fun e w' => e = .returned (.tuple #[.string ⟨#[]⟩, .bool false]) ∧ Below w.heap.size w w' := fun w => by
    have h := getBase64_any ⟨#[90, 103, 61]⟩ w (by decide)
    rw [show get64 (⟨#[90, 103, 61]⟩ : ByteArray).data.toList = none from knownBad.1] at h
    exact h
  have H32 : Hid (∀ w, Calls Tryd.prog 15 #[.string ⟨shaL.toArray⟩] w fun e w' => e = .returned (.string ⟨#[48, 109, 100, 113, 97, 57, 119, 49, 112, 54, 99, 109, 108, 105, 54, 57, 55, 54, 118, 52, 119, 105, 48, 115, 119, 57, 114, 52, 112, 53, 112, 114, 107, 106, 55, 108, 122, 102, 100, 49, 56, 55, 55, 119, 107, 49, 49, 99, 57, 99, 55, 51]⟩) ∧ Below w.heap.size w w') := Lib.hid fun w => by
    have h := base32_any ⟨shaL.toArray⟩ w (by decide)
    rw [show (b32 (⟨shaL.toArray⟩ : ByteArray).data.toList).toArray = #[48, 109, 100, 113, 97, 57, 119, 49, 112, 54, 99, 109, 108, 105, 54, 57, 55, 54, 118, 52, 119, 105, 48, 115, 119, 57, 114, 52, 112, 53, 112, 114, 107, 106, 55, 108, 122, 102, 100, 49, 56, 55, 55, 119, 107, 49, 49, 99, 57, 99, 55, 51] from known32] at h
    exact h
  have H64 : Hid (∀ w, Calls Tryd.prog 17 #[.string ⟨#[]⟩] w fun e w' => e = .returned (.string ⟨#[]⟩) ∧ Below w.heap.size w w') := Lib.hid fun w => by
    have h := base64_any ⟨#[]⟩ w (by decide)
    rw [show (b64 (⟨#[]⟩ : ByteArray).data.toList).toArray = #[] from known64.1] at h
    exact h
  have HFC := Lib.hid (four_cells w (.cells #[.int .u8 227, .int .u8 176, .int .u8 196, .int .u8 66, .int .u8 152, .int .u8 252, .int .u8 28, .int .u8 20, .int .u8 154, .int .u8 251, .int .u8 244, .int .u8 200, .int .u8 153, .int .u8 111, .int .u8 185, .int .u8 36, .int .u8 39, .int .u8 174, .int .u8 65, .int .u8 228, .int .u8 100, .int .u8 155, .int .u8 147, .int .u8 76, .int .u8 164, .int .u8 149, .int .u8 153, .int .u8 27, .int .u8 120, .int .u8 82, .int .u8 184, .int .u8 85] 5) (.cells #[.string ⟨#[]⟩, .string ⟨#[102]⟩, .string ⟨#[102, 111]⟩, .string ⟨#[102, 111, 111]⟩, .string ⟨#[102, 111, 111, 98]⟩, .string ⟨#[102, 111, 111, 98, 97]⟩, .string ⟨#[102, 111, 111, 98, 97, 114]⟩] 9) (.cells #[.string ⟨#[]⟩, .string ⟨#[90, 103, 61, 61]⟩, .string ⟨#[90, 109, 56, 61]⟩, .string ⟨#[90, 109, 57, 118]⟩, .string ⟨#[90, 109, 57, 118, 89, 103, 61, 61]⟩, .string ⟨#[90, 109, 57, 118, 89, 109, 69, 61]⟩, .string ⟨#[90, 109, 57, 118, 89, 109, 70, 121]⟩] 9) (.cells #[.string ⟨#[90, 103, 61]⟩, .string ⟨#[90, 104, 61, 61]⟩, .string ⟨#[90]⟩, .string ⟨#[90, 109, 56]⟩, .string ⟨#[61]⟩, .string ⟨#[90, 109, 57]⟩, .string ⟨#[90, 103, 61, 61, 61]⟩] 9))
  go_enter Tryd.func5, Tryd.ntmps5
  go_wp2_with fail
  go_at_call 9
  refine (hbad _).mono ?_
  rintro e w1 ⟨rfl, hb1⟩
  obtain ⟨c1, c2, hB, hZ⟩ := HFC.out w1 hb1
  have q0 : w1.cell? ⟨w.heap.size + 1, 0, none⟩ = some (.string ⟨#[]⟩) := by rw [Lib.cell_of_heap c1]; rfl
  have q1 : w1.cell? ⟨w.heap.size + 1 + 1, 0, none⟩ = some (.string ⟨#[]⟩) := by rw [Lib.cell_of_heap c2]; rfl
  clear hb1 c1 c2 HFC hbad hcv
  obtain ⟨t, ht⟩ : ∃ t : ByteArray, Hid (t = ⟨#[]⟩) := ⟨_, Lib.hid rfl⟩
  rw [← ht.out] at q0 q1 H64
  clear ht
  have HKP : Hid (∀ wa wb, (wa.cell? ⟨w.heap.size + 1, 0, none⟩ = some (.string t) ∧ wa.cell? ⟨w.heap.size + 1 + 1, 0, none⟩ = some (.string t) ∧ Below w.heap.size w wa ∧ w.heap.size + 1 + 1 < wa.heap.size) → Below wa.heap.size wa wb → (wb.cell? ⟨w.heap.size + 1, 0, none⟩ = some (.string t) ∧ wb.cell? ⟨w.heap.size + 1 + 1, 0, none⟩ = some (.string t) ∧ Below w.heap.size w wb ∧ w.heap.size + 1 + 1 < wb.heap.size)) := by
    apply Lib.hid
    rintro wa wb ⟨a1, a2, a7, a8⟩ hb
    exact ⟨(hb.cell (p := ⟨w.heap.size + 1, 0, none⟩) (by show w.heap.size + 1 < _; omega)).trans a1, (hb.cell (p := ⟨w.heap.size + 1 + 1, 0, none⟩) (by show w.heap.size + 1 + 1 < _; omega)).trans a2, below_step a7 hb, Nat.lt_of_lt_of_le a8 hb.size⟩
  have SB : Hid (w1.cell? ⟨w.heap.size + 1, 0, none⟩ = some (.string t) ∧ w1.cell? ⟨w.heap.size + 1 + 1, 0, none⟩ = some (.string t) ∧ Below w.heap.size w w1 ∧ w.heap.size + 1 + 1 < w1.heap.size) := Lib.hid ⟨q0, q1, hB, hZ⟩
  have SD : Hid (w1.drew.cell? ⟨w.heap.size + 1, 0, none⟩ = some (.string t) ∧ w1.drew.cell? ⟨w.heap.size + 1 + 1, 0, none⟩ = some (.string t) ∧ Below w.heap.size w w1.drew ∧ w.heap.size + 1 + 1 < w1.drew.heap.size) := Lib.hid ⟨q0, q1, hB.drew, hZ⟩
  clear q0 q1 hB hZ
  go_wp2
  go_region_held3 (fun w' => w'.cell? ⟨w.heap.size + 1, 0, none⟩ = some (.string t) ∧ w'.cell? ⟨w.heap.size + 1 + 1, 0, none⟩ = some (.string t) ∧ Below w.heap.size w w' ∧ w.heap.size + 1 + 1 < w'.heap.size) (first | exact SD.out | exact SB.out | exact HKP.out _ _ SD.out hbx | exact HKP.out _ _ SB.out hbx | exact HKP.out _ _ (by assumption) hbx) (first | (go_at_call 15; (with_reducible refine (H32.out _).mono ?_); rintro e w' ⟨rfl, hbx⟩) | (go_at_call 17; (with_reducible refine (H64.out _).mono ?_); rintro e w' ⟨rfl, hbx⟩) | (go_at_call 6; (with_reducible refine (awake_ok _).mono ?_); rintro e w' ⟨rfl, hbx⟩))
  have HF : Hid (Below w.heap.size w w') := by go_split_ands; assumption
  rename_i hHeld
  clear hHeld
  go_wp2
  go_ret
  exact ⟨rfl, HF.out⟩

set_option maxRecDepth 100000 in
set_option maxHeartbeats 1000000 in
theorem known_at1 (n : Nat) (hn : n < 256) (w : World) (hm : (n : Int) % 7 = 1) : Calls Tryd.prog 5 #[.int .u8 (n : Int)] w fun e w' => e = .returned (.bool true) ∧ Below w.heap.size w w' := by
  have hcv0 : IntKind.i64.wrap (n : Int) = (n : Int) := by rw [IntKind.wrap_i64]; omega
  have hcv := sha_conv w
  have hbad : ∀ w, Calls Tryd.prog 9 #[.string ⟨#[90, 104, 61, 61]⟩] w fun e w' => e = .returned (.tuple #[.string ⟨#[]⟩, .bool false]) ∧ Below w.heap.size w w' := fun w => by
    have h := getBase64_any ⟨#[90, 104, 61, 61]⟩ w (by decide)
    rw [show get64 (⟨#[90, 104, 61, 61]⟩ : ByteArray).data.toList = none from knownBad.2.1] at h
    exact h
  have H32 : Hid (∀ w, Calls Tryd.prog 15 #[.string ⟨shaL.toArray⟩] w fun e w' => e = .returned (.string ⟨#[48, 109, 100, 113, 97, 57, 119, 49, 112, 54, 99, 109, 108, 105, 54, 57, 55, 54, 118, 52, 119, 105, 48, 115, 119, 57, 114, 52, 112, 53, 112, 114, 107, 106, 55, 108, 122, 102, 100, 49, 56, 55, 55, 119, 107, 49, 49, 99, 57, 99, 55, 51]⟩) ∧ Below w.heap.size w w') := Lib.hid fun w => by
    have h := base32_any ⟨shaL.toArray⟩ w (by decide)
    rw [show (b32 (⟨shaL.toArray⟩ : ByteArray).data.toList).toArray = #[48, 109, 100, 113, 97, 57, 119, 49, 112, 54, 99, 109, 108, 105, 54, 57, 55, 54, 118, 52, 119, 105, 48, 115, 119, 57, 114, 52, 112, 53, 112, 114, 107, 106, 55, 108, 122, 102, 100, 49, 56, 55, 55, 119, 107, 49, 49, 99, 57, 99, 55, 51] from known32] at h
    exact h
  have H64 : Hid (∀ w, Calls Tryd.prog 17 #[.string ⟨#[102]⟩] w fun e w' => e = .returned (.string ⟨#[90, 103, 61, 61]⟩) ∧ Below w.heap.size w w') := Lib.hid fun w => by
    have h := base64_any ⟨#[102]⟩ w (by decide)
    rw [show (b64 (⟨#[102]⟩ : ByteArray).data.toList).toArray = #[90, 103, 61, 61] from known64.2.1] at h
    exact h
  have HFC := Lib.hid (four_cells w (.cells #[.int .u8 227, .int .u8 176, .int .u8 196, .int .u8 66, .int .u8 152, .int .u8 252, .int .u8 28, .int .u8 20, .int .u8 154, .int .u8 251, .int .u8 244, .int .u8 200, .int .u8 153, .int .u8 111, .int .u8 185, .int .u8 36, .int .u8 39, .int .u8 174, .int .u8 65, .int .u8 228, .int .u8 100, .int .u8 155, .int .u8 147, .int .u8 76, .int .u8 164, .int .u8 149, .int .u8 153, .int .u8 27, .int .u8 120, .int .u8 82, .int .u8 184, .int .u8 85] 5) (.cells #[.string ⟨#[]⟩, .string ⟨#[102]⟩, .string ⟨#[102, 111]⟩, .string ⟨#[102, 111, 111]⟩, .string ⟨#[102, 111, 111, 98]⟩, .string ⟨#[102, 111, 111, 98, 97]⟩, .string ⟨#[102, 111, 111, 98, 97, 114]⟩] 9) (.cells #[.string ⟨#[]⟩, .string ⟨#[90, 103, 61, 61]⟩, .string ⟨#[90, 109, 56, 61]⟩, .string ⟨#[90, 109, 57, 118]⟩, .string ⟨#[90, 109, 57, 118, 89, 103, 61, 61]⟩, .string ⟨#[90, 109, 57, 118, 89, 109, 69, 61]⟩, .string ⟨#[90, 109, 57, 118, 89, 109, 70, 121]⟩] 9) (.cells #[.string ⟨#[90, 103, 61]⟩, .string ⟨#[90, 104, 61, 61]⟩, .string ⟨#[90]⟩, .string ⟨#[90, 109, 56]⟩, .string ⟨#[61]⟩, .string ⟨#[90, 109, 57]⟩, .string ⟨#[90, 103, 61, 61, 61]⟩] 9))
  go_enter Tryd.func5, Tryd.ntmps5
  go_wp2_with fail
  go_at_call 9
  refine (hbad _).mono ?_
  rintro e w1 ⟨rfl, hb1⟩
  obtain ⟨c1, c2, hB, hZ⟩ := HFC.out w1 hb1
  have q0 : w1.cell? ⟨w.heap.size + 1, 1, none⟩ = some (.string ⟨#[102]⟩) := by rw [Lib.cell_of_heap c1]; rfl
  have q1 : w1.cell? ⟨w.heap.size + 1 + 1, 1, none⟩ = some (.string ⟨#[90, 103, 61, 61]⟩) := by rw [Lib.cell_of_heap c2]; rfl
  clear hb1 c1 c2 HFC hbad hcv
  obtain ⟨t, ht⟩ : ∃ t : ByteArray, Hid (t = ⟨#[102]⟩) := ⟨_, Lib.hid rfl⟩
  obtain ⟨m, hmm⟩ : ∃ m : ByteArray, Hid (m = ⟨#[90, 103, 61, 61]⟩) := ⟨_, Lib.hid rfl⟩
  rw [← ht.out] at q0 H64
  rw [← hmm.out] at q1 H64
  clear ht hmm
  have HKP : Hid (∀ wa wb, (wa.cell? ⟨w.heap.size + 1, 1, none⟩ = some (.string t) ∧ wa.cell? ⟨w.heap.size + 1 + 1, 1, none⟩ = some (.string m) ∧ Below w.heap.size w wa ∧ w.heap.size + 1 + 1 < wa.heap.size) → Below wa.heap.size wa wb → (wb.cell? ⟨w.heap.size + 1, 1, none⟩ = some (.string t) ∧ wb.cell? ⟨w.heap.size + 1 + 1, 1, none⟩ = some (.string m) ∧ Below w.heap.size w wb ∧ w.heap.size + 1 + 1 < wb.heap.size)) := by
    apply Lib.hid
    rintro wa wb ⟨a1, a2, a7, a8⟩ hb
    exact ⟨(hb.cell (p := ⟨w.heap.size + 1, 1, none⟩) (by show w.heap.size + 1 < _; omega)).trans a1, (hb.cell (p := ⟨w.heap.size + 1 + 1, 1, none⟩) (by show w.heap.size + 1 + 1 < _; omega)).trans a2, below_step a7 hb, Nat.lt_of_lt_of_le a8 hb.size⟩
  have SB : Hid (w1.cell? ⟨w.heap.size + 1, 1, none⟩ = some (.string t) ∧ w1.cell? ⟨w.heap.size + 1 + 1, 1, none⟩ = some (.string m) ∧ Below w.heap.size w w1 ∧ w.heap.size + 1 + 1 < w1.heap.size) := Lib.hid ⟨q0, q1, hB, hZ⟩
  have SD : Hid (w1.drew.cell? ⟨w.heap.size + 1, 1, none⟩ = some (.string t) ∧ w1.drew.cell? ⟨w.heap.size + 1 + 1, 1, none⟩ = some (.string m) ∧ Below w.heap.size w w1.drew ∧ w.heap.size + 1 + 1 < w1.drew.heap.size) := Lib.hid ⟨q0, q1, hB.drew, hZ⟩
  clear q0 q1 hB hZ
  go_wp2
  go_region_held3 (fun w' => w'.cell? ⟨w.heap.size + 1, 1, none⟩ = some (.string t) ∧ w'.cell? ⟨w.heap.size + 1 + 1, 1, none⟩ = some (.string m) ∧ Below w.heap.size w w' ∧ w.heap.size + 1 + 1 < w'.heap.size) (first | exact SD.out | exact SB.out | exact HKP.out _ _ SD.out hbx | exact HKP.out _ _ SB.out hbx | exact HKP.out _ _ (by assumption) hbx) (first | (go_at_call 15; (with_reducible refine (H32.out _).mono ?_); rintro e w' ⟨rfl, hbx⟩) | (go_at_call 17; (with_reducible refine (H64.out _).mono ?_); rintro e w' ⟨rfl, hbx⟩) | (go_at_call 6; (with_reducible refine (awake_ok _).mono ?_); rintro e w' ⟨rfl, hbx⟩))
  have HF : Hid (Below w.heap.size w w') := by go_split_ands; assumption
  rename_i hHeld
  clear hHeld
  go_wp2
  go_ret
  exact ⟨rfl, HF.out⟩

set_option maxRecDepth 100000 in
set_option maxHeartbeats 1000000 in
theorem known_at2 (n : Nat) (hn : n < 256) (w : World) (hm : (n : Int) % 7 = 2) : Calls Tryd.prog 5 #[.int .u8 (n : Int)] w fun e w' => e = .returned (.bool true) ∧ Below w.heap.size w w' := by
  have hcv0 : IntKind.i64.wrap (n : Int) = (n : Int) := by rw [IntKind.wrap_i64]; omega
  have hcv := sha_conv w
  have hbad : ∀ w, Calls Tryd.prog 9 #[.string ⟨#[90]⟩] w fun e w' => e = .returned (.tuple #[.string ⟨#[]⟩, .bool false]) ∧ Below w.heap.size w w' := fun w => by
    have h := getBase64_any ⟨#[90]⟩ w (by decide)
    rw [show get64 (⟨#[90]⟩ : ByteArray).data.toList = none from knownBad.2.2.1] at h
    exact h
  have H32 : Hid (∀ w, Calls Tryd.prog 15 #[.string ⟨shaL.toArray⟩] w fun e w' => e = .returned (.string ⟨#[48, 109, 100, 113, 97, 57, 119, 49, 112, 54, 99, 109, 108, 105, 54, 57, 55, 54, 118, 52, 119, 105, 48, 115, 119, 57, 114, 52, 112, 53, 112, 114, 107, 106, 55, 108, 122, 102, 100, 49, 56, 55, 55, 119, 107, 49, 49, 99, 57, 99, 55, 51]⟩) ∧ Below w.heap.size w w') := Lib.hid fun w => by
    have h := base32_any ⟨shaL.toArray⟩ w (by decide)
    rw [show (b32 (⟨shaL.toArray⟩ : ByteArray).data.toList).toArray = #[48, 109, 100, 113, 97, 57, 119, 49, 112, 54, 99, 109, 108, 105, 54, 57, 55, 54, 118, 52, 119, 105, 48, 115, 119, 57, 114, 52, 112, 53, 112, 114, 107, 106, 55, 108, 122, 102, 100, 49, 56, 55, 55, 119, 107, 49, 49, 99, 57, 99, 55, 51] from known32] at h
    exact h
  have H64 : Hid (∀ w, Calls Tryd.prog 17 #[.string ⟨#[102, 111]⟩] w fun e w' => e = .returned (.string ⟨#[90, 109, 56, 61]⟩) ∧ Below w.heap.size w w') := Lib.hid fun w => by
    have h := base64_any ⟨#[102, 111]⟩ w (by decide)
    rw [show (b64 (⟨#[102, 111]⟩ : ByteArray).data.toList).toArray = #[90, 109, 56, 61] from known64.2.2.1] at h
    exact h
  have HFC := Lib.hid (four_cells w (.cells #[.int .u8 227, .int .u8 176, .int .u8 196, .int .u8 66, .int .u8 152, .int .u8 252, .int .u8 28, .int .u8 20, .int .u8 154, .int .u8 251, .int .u8 244, .int .u8 200, .int .u8 153, .int .u8 111, .int .u8 185, .int .u8 36, .int .u8 39, .int .u8 174, .int .u8 65, .int .u8 228, .int .u8 100, .int .u8 155, .int .u8 147, .int .u8 76, .int .u8 164, .int .u8 149, .int .u8 153, .int .u8 27, .int .u8 120, .int .u8 82, .int .u8 184, .int .u8 85] 5) (.cells #[.string ⟨#[]⟩, .string ⟨#[102]⟩, .string ⟨#[102, 111]⟩, .string ⟨#[102, 111, 111]⟩, .string ⟨#[102, 111, 111, 98]⟩, .string ⟨#[102, 111, 111, 98, 97]⟩, .string ⟨#[102, 111, 111, 98, 97, 114]⟩] 9) (.cells #[.string ⟨#[]⟩, .string ⟨#[90, 103, 61, 61]⟩, .string ⟨#[90, 109, 56, 61]⟩, .string ⟨#[90, 109, 57, 118]⟩, .string ⟨#[90, 109, 57, 118, 89, 103, 61, 61]⟩, .string ⟨#[90, 109, 57, 118, 89, 109, 69, 61]⟩, .string ⟨#[90, 109, 57, 118, 89, 109, 70, 121]⟩] 9) (.cells #[.string ⟨#[90, 103, 61]⟩, .string ⟨#[90, 104, 61, 61]⟩, .string ⟨#[90]⟩, .string ⟨#[90, 109, 56]⟩, .string ⟨#[61]⟩, .string ⟨#[90, 109, 57]⟩, .string ⟨#[90, 103, 61, 61, 61]⟩] 9))
  go_enter Tryd.func5, Tryd.ntmps5
  go_wp2_with fail
  go_at_call 9
  refine (hbad _).mono ?_
  rintro e w1 ⟨rfl, hb1⟩
  obtain ⟨c1, c2, hB, hZ⟩ := HFC.out w1 hb1
  have q0 : w1.cell? ⟨w.heap.size + 1, 2, none⟩ = some (.string ⟨#[102, 111]⟩) := by rw [Lib.cell_of_heap c1]; rfl
  have q1 : w1.cell? ⟨w.heap.size + 1 + 1, 2, none⟩ = some (.string ⟨#[90, 109, 56, 61]⟩) := by rw [Lib.cell_of_heap c2]; rfl
  clear hb1 c1 c2 HFC hbad hcv
  obtain ⟨t, ht⟩ : ∃ t : ByteArray, Hid (t = ⟨#[102, 111]⟩) := ⟨_, Lib.hid rfl⟩
  obtain ⟨m, hmm⟩ : ∃ m : ByteArray, Hid (m = ⟨#[90, 109, 56, 61]⟩) := ⟨_, Lib.hid rfl⟩
  rw [← ht.out] at q0 H64
  rw [← hmm.out] at q1 H64
  clear ht hmm
  have HKP : Hid (∀ wa wb, (wa.cell? ⟨w.heap.size + 1, 2, none⟩ = some (.string t) ∧ wa.cell? ⟨w.heap.size + 1 + 1, 2, none⟩ = some (.string m) ∧ Below w.heap.size w wa ∧ w.heap.size + 1 + 1 < wa.heap.size) → Below wa.heap.size wa wb → (wb.cell? ⟨w.heap.size + 1, 2, none⟩ = some (.string t) ∧ wb.cell? ⟨w.heap.size + 1 + 1, 2, none⟩ = some (.string m) ∧ Below w.heap.size w wb ∧ w.heap.size + 1 + 1 < wb.heap.size)) := by
    apply Lib.hid
    rintro wa wb ⟨a1, a2, a7, a8⟩ hb
    exact ⟨(hb.cell (p := ⟨w.heap.size + 1, 2, none⟩) (by show w.heap.size + 1 < _; omega)).trans a1, (hb.cell (p := ⟨w.heap.size + 1 + 1, 2, none⟩) (by show w.heap.size + 1 + 1 < _; omega)).trans a2, below_step a7 hb, Nat.lt_of_lt_of_le a8 hb.size⟩
  have SB : Hid (w1.cell? ⟨w.heap.size + 1, 2, none⟩ = some (.string t) ∧ w1.cell? ⟨w.heap.size + 1 + 1, 2, none⟩ = some (.string m) ∧ Below w.heap.size w w1 ∧ w.heap.size + 1 + 1 < w1.heap.size) := Lib.hid ⟨q0, q1, hB, hZ⟩
  have SD : Hid (w1.drew.cell? ⟨w.heap.size + 1, 2, none⟩ = some (.string t) ∧ w1.drew.cell? ⟨w.heap.size + 1 + 1, 2, none⟩ = some (.string m) ∧ Below w.heap.size w w1.drew ∧ w.heap.size + 1 + 1 < w1.drew.heap.size) := Lib.hid ⟨q0, q1, hB.drew, hZ⟩
  clear q0 q1 hB hZ
  go_wp2
  go_region_held3 (fun w' => w'.cell? ⟨w.heap.size + 1, 2, none⟩ = some (.string t) ∧ w'.cell? ⟨w.heap.size + 1 + 1, 2, none⟩ = some (.string m) ∧ Below w.heap.size w w' ∧ w.heap.size + 1 + 1 < w'.heap.size) (first | exact SD.out | exact SB.out | exact HKP.out _ _ SD.out hbx | exact HKP.out _ _ SB.out hbx | exact HKP.out _ _ (by assumption) hbx) (first | (go_at_call 15; (with_reducible refine (H32.out _).mono ?_); rintro e w' ⟨rfl, hbx⟩) | (go_at_call 17; (with_reducible refine (H64.out _).mono ?_); rintro e w' ⟨rfl, hbx⟩) | (go_at_call 6; (with_reducible refine (awake_ok _).mono ?_); rintro e w' ⟨rfl, hbx⟩))
  have HF : Hid (Below w.heap.size w w') := by go_split_ands; assumption
  rename_i hHeld
  clear hHeld
  go_wp2
  go_ret
  exact ⟨rfl, HF.out⟩

set_option maxRecDepth 100000 in
set_option maxHeartbeats 1000000 in
theorem known_at3 (n : Nat) (hn : n < 256) (w : World) (hm : (n : Int) % 7 = 3) : Calls Tryd.prog 5 #[.int .u8 (n : Int)] w fun e w' => e = .returned (.bool true) ∧ Below w.heap.size w w' := by
  have hcv0 : IntKind.i64.wrap (n : Int) = (n : Int) := by rw [IntKind.wrap_i64]; omega
  have hcv := sha_conv w
  have hbad : ∀ w, Calls Tryd.prog 9 #[.string ⟨#[90, 109, 56]⟩] w fun e w' => e = .returned (.tuple #[.string ⟨#[]⟩, .bool false]) ∧ Below w.heap.size w w' := fun w => by
    have h := getBase64_any ⟨#[90, 109, 56]⟩ w (by decide)
    rw [show get64 (⟨#[90, 109, 56]⟩ : ByteArray).data.toList = none from knownBad.2.2.2.1] at h
    exact h
  have H32 : Hid (∀ w, Calls Tryd.prog 15 #[.string ⟨shaL.toArray⟩] w fun e w' => e = .returned (.string ⟨#[48, 109, 100, 113, 97, 57, 119, 49, 112, 54, 99, 109, 108, 105, 54, 57, 55, 54, 118, 52, 119, 105, 48, 115, 119, 57, 114, 52, 112, 53, 112, 114, 107, 106, 55, 108, 122, 102, 100, 49, 56, 55, 55, 119, 107, 49, 49, 99, 57, 99, 55, 51]⟩) ∧ Below w.heap.size w w') := Lib.hid fun w => by
    have h := base32_any ⟨shaL.toArray⟩ w (by decide)
    rw [show (b32 (⟨shaL.toArray⟩ : ByteArray).data.toList).toArray = #[48, 109, 100, 113, 97, 57, 119, 49, 112, 54, 99, 109, 108, 105, 54, 57, 55, 54, 118, 52, 119, 105, 48, 115, 119, 57, 114, 52, 112, 53, 112, 114, 107, 106, 55, 108, 122, 102, 100, 49, 56, 55, 55, 119, 107, 49, 49, 99, 57, 99, 55, 51] from known32] at h
    exact h
  have H64 : Hid (∀ w, Calls Tryd.prog 17 #[.string ⟨#[102, 111, 111]⟩] w fun e w' => e = .returned (.string ⟨#[90, 109, 57, 118]⟩) ∧ Below w.heap.size w w') := Lib.hid fun w => by
    have h := base64_any ⟨#[102, 111, 111]⟩ w (by decide)
    rw [show (b64 (⟨#[102, 111, 111]⟩ : ByteArray).data.toList).toArray = #[90, 109, 57, 118] from known64.2.2.2.1] at h
    exact h
  have HFC := Lib.hid (four_cells w (.cells #[.int .u8 227, .int .u8 176, .int .u8 196, .int .u8 66, .int .u8 152, .int .u8 252, .int .u8 28, .int .u8 20, .int .u8 154, .int .u8 251, .int .u8 244, .int .u8 200, .int .u8 153, .int .u8 111, .int .u8 185, .int .u8 36, .int .u8 39, .int .u8 174, .int .u8 65, .int .u8 228, .int .u8 100, .int .u8 155, .int .u8 147, .int .u8 76, .int .u8 164, .int .u8 149, .int .u8 153, .int .u8 27, .int .u8 120, .int .u8 82, .int .u8 184, .int .u8 85] 5) (.cells #[.string ⟨#[]⟩, .string ⟨#[102]⟩, .string ⟨#[102, 111]⟩, .string ⟨#[102, 111, 111]⟩, .string ⟨#[102, 111, 111, 98]⟩, .string ⟨#[102, 111, 111, 98, 97]⟩, .string ⟨#[102, 111, 111, 98, 97, 114]⟩] 9) (.cells #[.string ⟨#[]⟩, .string ⟨#[90, 103, 61, 61]⟩, .string ⟨#[90, 109, 56, 61]⟩, .string ⟨#[90, 109, 57, 118]⟩, .string ⟨#[90, 109, 57, 118, 89, 103, 61, 61]⟩, .string ⟨#[90, 109, 57, 118, 89, 109, 69, 61]⟩, .string ⟨#[90, 109, 57, 118, 89, 109, 70, 121]⟩] 9) (.cells #[.string ⟨#[90, 103, 61]⟩, .string ⟨#[90, 104, 61, 61]⟩, .string ⟨#[90]⟩, .string ⟨#[90, 109, 56]⟩, .string ⟨#[61]⟩, .string ⟨#[90, 109, 57]⟩, .string ⟨#[90, 103, 61, 61, 61]⟩] 9))
  go_enter Tryd.func5, Tryd.ntmps5
  go_wp2_with fail
  go_at_call 9
  refine (hbad _).mono ?_
  rintro e w1 ⟨rfl, hb1⟩
  obtain ⟨c1, c2, hB, hZ⟩ := HFC.out w1 hb1
  have q0 : w1.cell? ⟨w.heap.size + 1, 3, none⟩ = some (.string ⟨#[102, 111, 111]⟩) := by rw [Lib.cell_of_heap c1]; rfl
  have q1 : w1.cell? ⟨w.heap.size + 1 + 1, 3, none⟩ = some (.string ⟨#[90, 109, 57, 118]⟩) := by rw [Lib.cell_of_heap c2]; rfl
  clear hb1 c1 c2 HFC hbad hcv
  obtain ⟨t, ht⟩ : ∃ t : ByteArray, Hid (t = ⟨#[102, 111, 111]⟩) := ⟨_, Lib.hid rfl⟩
  obtain ⟨m, hmm⟩ : ∃ m : ByteArray, Hid (m = ⟨#[90, 109, 57, 118]⟩) := ⟨_, Lib.hid rfl⟩
  rw [← ht.out] at q0 H64
  rw [← hmm.out] at q1 H64
  clear ht hmm
  have HKP : Hid (∀ wa wb, (wa.cell? ⟨w.heap.size + 1, 3, none⟩ = some (.string t) ∧ wa.cell? ⟨w.heap.size + 1 + 1, 3, none⟩ = some (.string m) ∧ Below w.heap.size w wa ∧ w.heap.size + 1 + 1 < wa.heap.size) → Below wa.heap.size wa wb → (wb.cell? ⟨w.heap.size + 1, 3, none⟩ = some (.string t) ∧ wb.cell? ⟨w.heap.size + 1 + 1, 3, none⟩ = some (.string m) ∧ Below w.heap.size w wb ∧ w.heap.size + 1 + 1 < wb.heap.size)) := by
    apply Lib.hid
    rintro wa wb ⟨a1, a2, a7, a8⟩ hb
    exact ⟨(hb.cell (p := ⟨w.heap.size + 1, 3, none⟩) (by show w.heap.size + 1 < _; omega)).trans a1, (hb.cell (p := ⟨w.heap.size + 1 + 1, 3, none⟩) (by show w.heap.size + 1 + 1 < _; omega)).trans a2, below_step a7 hb, Nat.lt_of_lt_of_le a8 hb.size⟩
  have SB : Hid (w1.cell? ⟨w.heap.size + 1, 3, none⟩ = some (.string t) ∧ w1.cell? ⟨w.heap.size + 1 + 1, 3, none⟩ = some (.string m) ∧ Below w.heap.size w w1 ∧ w.heap.size + 1 + 1 < w1.heap.size) := Lib.hid ⟨q0, q1, hB, hZ⟩
  have SD : Hid (w1.drew.cell? ⟨w.heap.size + 1, 3, none⟩ = some (.string t) ∧ w1.drew.cell? ⟨w.heap.size + 1 + 1, 3, none⟩ = some (.string m) ∧ Below w.heap.size w w1.drew ∧ w.heap.size + 1 + 1 < w1.drew.heap.size) := Lib.hid ⟨q0, q1, hB.drew, hZ⟩
  clear q0 q1 hB hZ
  go_wp2
  go_region_held3 (fun w' => w'.cell? ⟨w.heap.size + 1, 3, none⟩ = some (.string t) ∧ w'.cell? ⟨w.heap.size + 1 + 1, 3, none⟩ = some (.string m) ∧ Below w.heap.size w w' ∧ w.heap.size + 1 + 1 < w'.heap.size) (first | exact SD.out | exact SB.out | exact HKP.out _ _ SD.out hbx | exact HKP.out _ _ SB.out hbx | exact HKP.out _ _ (by assumption) hbx) (first | (go_at_call 15; (with_reducible refine (H32.out _).mono ?_); rintro e w' ⟨rfl, hbx⟩) | (go_at_call 17; (with_reducible refine (H64.out _).mono ?_); rintro e w' ⟨rfl, hbx⟩) | (go_at_call 6; (with_reducible refine (awake_ok _).mono ?_); rintro e w' ⟨rfl, hbx⟩))
  have HF : Hid (Below w.heap.size w w') := by go_split_ands; assumption
  rename_i hHeld
  clear hHeld
  go_wp2
  go_ret
  exact ⟨rfl, HF.out⟩

set_option maxRecDepth 100000 in
set_option maxHeartbeats 1000000 in
theorem known_at4 (n : Nat) (hn : n < 256) (w : World) (hm : (n : Int) % 7 = 4) : Calls Tryd.prog 5 #[.int .u8 (n : Int)] w fun e w' => e = .returned (.bool true) ∧ Below w.heap.size w w' := by
  have hcv0 : IntKind.i64.wrap (n : Int) = (n : Int) := by rw [IntKind.wrap_i64]; omega
  have hcv := sha_conv w
  have hbad : ∀ w, Calls Tryd.prog 9 #[.string ⟨#[61]⟩] w fun e w' => e = .returned (.tuple #[.string ⟨#[]⟩, .bool false]) ∧ Below w.heap.size w w' := fun w => by
    have h := getBase64_any ⟨#[61]⟩ w (by decide)
    rw [show get64 (⟨#[61]⟩ : ByteArray).data.toList = none from knownBad.2.2.2.2.1] at h
    exact h
  have H32 : Hid (∀ w, Calls Tryd.prog 15 #[.string ⟨shaL.toArray⟩] w fun e w' => e = .returned (.string ⟨#[48, 109, 100, 113, 97, 57, 119, 49, 112, 54, 99, 109, 108, 105, 54, 57, 55, 54, 118, 52, 119, 105, 48, 115, 119, 57, 114, 52, 112, 53, 112, 114, 107, 106, 55, 108, 122, 102, 100, 49, 56, 55, 55, 119, 107, 49, 49, 99, 57, 99, 55, 51]⟩) ∧ Below w.heap.size w w') := Lib.hid fun w => by
    have h := base32_any ⟨shaL.toArray⟩ w (by decide)
    rw [show (b32 (⟨shaL.toArray⟩ : ByteArray).data.toList).toArray = #[48, 109, 100, 113, 97, 57, 119, 49, 112, 54, 99, 109, 108, 105, 54, 57, 55, 54, 118, 52, 119, 105, 48, 115, 119, 57, 114, 52, 112, 53, 112, 114, 107, 106, 55, 108, 122, 102, 100, 49, 56, 55, 55, 119, 107, 49, 49, 99, 57, 99, 55, 51] from known32] at h
    exact h
  have H64 : Hid (∀ w, Calls Tryd.prog 17 #[.string ⟨#[102, 111, 111, 98]⟩] w fun e w' => e = .returned (.string ⟨#[90, 109, 57, 118, 89, 103, 61, 61]⟩) ∧ Below w.heap.size w w') := Lib.hid fun w => by
    have h := base64_any ⟨#[102, 111, 111, 98]⟩ w (by decide)
    rw [show (b64 (⟨#[102, 111, 111, 98]⟩ : ByteArray).data.toList).toArray = #[90, 109, 57, 118, 89, 103, 61, 61] from known64.2.2.2.2.1] at h
    exact h
  have HFC := Lib.hid (four_cells w (.cells #[.int .u8 227, .int .u8 176, .int .u8 196, .int .u8 66, .int .u8 152, .int .u8 252, .int .u8 28, .int .u8 20, .int .u8 154, .int .u8 251, .int .u8 244, .int .u8 200, .int .u8 153, .int .u8 111, .int .u8 185, .int .u8 36, .int .u8 39, .int .u8 174, .int .u8 65, .int .u8 228, .int .u8 100, .int .u8 155, .int .u8 147, .int .u8 76, .int .u8 164, .int .u8 149, .int .u8 153, .int .u8 27, .int .u8 120, .int .u8 82, .int .u8 184, .int .u8 85] 5) (.cells #[.string ⟨#[]⟩, .string ⟨#[102]⟩, .string ⟨#[102, 111]⟩, .string ⟨#[102, 111, 111]⟩, .string ⟨#[102, 111, 111, 98]⟩, .string ⟨#[102, 111, 111, 98, 97]⟩, .string ⟨#[102, 111, 111, 98, 97, 114]⟩] 9) (.cells #[.string ⟨#[]⟩, .string ⟨#[90, 103, 61, 61]⟩, .string ⟨#[90, 109, 56, 61]⟩, .string ⟨#[90, 109, 57, 118]⟩, .string ⟨#[90, 109, 57, 118, 89, 103, 61, 61]⟩, .string ⟨#[90, 109, 57, 118, 89, 109, 69, 61]⟩, .string ⟨#[90, 109, 57, 118, 89, 109, 70, 121]⟩] 9) (.cells #[.string ⟨#[90, 103, 61]⟩, .string ⟨#[90, 104, 61, 61]⟩, .string ⟨#[90]⟩, .string ⟨#[90, 109, 56]⟩, .string ⟨#[61]⟩, .string ⟨#[90, 109, 57]⟩, .string ⟨#[90, 103, 61, 61, 61]⟩] 9))
  go_enter Tryd.func5, Tryd.ntmps5
  go_wp2_with fail
  go_at_call 9
  refine (hbad _).mono ?_
  rintro e w1 ⟨rfl, hb1⟩
  obtain ⟨c1, c2, hB, hZ⟩ := HFC.out w1 hb1
  have q0 : w1.cell? ⟨w.heap.size + 1, 4, none⟩ = some (.string ⟨#[102, 111, 111, 98]⟩) := by rw [Lib.cell_of_heap c1]; rfl
  have q1 : w1.cell? ⟨w.heap.size + 1 + 1, 4, none⟩ = some (.string ⟨#[90, 109, 57, 118, 89, 103, 61, 61]⟩) := by rw [Lib.cell_of_heap c2]; rfl
  clear hb1 c1 c2 HFC hbad hcv
  obtain ⟨t, ht⟩ : ∃ t : ByteArray, Hid (t = ⟨#[102, 111, 111, 98]⟩) := ⟨_, Lib.hid rfl⟩
  obtain ⟨m, hmm⟩ : ∃ m : ByteArray, Hid (m = ⟨#[90, 109, 57, 118, 89, 103, 61, 61]⟩) := ⟨_, Lib.hid rfl⟩
  rw [← ht.out] at q0 H64
  rw [← hmm.out] at q1 H64
  clear ht hmm
  have HKP : Hid (∀ wa wb, (wa.cell? ⟨w.heap.size + 1, 4, none⟩ = some (.string t) ∧ wa.cell? ⟨w.heap.size + 1 + 1, 4, none⟩ = some (.string m) ∧ Below w.heap.size w wa ∧ w.heap.size + 1 + 1 < wa.heap.size) → Below wa.heap.size wa wb → (wb.cell? ⟨w.heap.size + 1, 4, none⟩ = some (.string t) ∧ wb.cell? ⟨w.heap.size + 1 + 1, 4, none⟩ = some (.string m) ∧ Below w.heap.size w wb ∧ w.heap.size + 1 + 1 < wb.heap.size)) := by
    apply Lib.hid
    rintro wa wb ⟨a1, a2, a7, a8⟩ hb
    exact ⟨(hb.cell (p := ⟨w.heap.size + 1, 4, none⟩) (by show w.heap.size + 1 < _; omega)).trans a1, (hb.cell (p := ⟨w.heap.size + 1 + 1, 4, none⟩) (by show w.heap.size + 1 + 1 < _; omega)).trans a2, below_step a7 hb, Nat.lt_of_lt_of_le a8 hb.size⟩
  have SB : Hid (w1.cell? ⟨w.heap.size + 1, 4, none⟩ = some (.string t) ∧ w1.cell? ⟨w.heap.size + 1 + 1, 4, none⟩ = some (.string m) ∧ Below w.heap.size w w1 ∧ w.heap.size + 1 + 1 < w1.heap.size) := Lib.hid ⟨q0, q1, hB, hZ⟩
  have SD : Hid (w1.drew.cell? ⟨w.heap.size + 1, 4, none⟩ = some (.string t) ∧ w1.drew.cell? ⟨w.heap.size + 1 + 1, 4, none⟩ = some (.string m) ∧ Below w.heap.size w w1.drew ∧ w.heap.size + 1 + 1 < w1.drew.heap.size) := Lib.hid ⟨q0, q1, hB.drew, hZ⟩
  clear q0 q1 hB hZ
  go_wp2
  go_region_held3 (fun w' => w'.cell? ⟨w.heap.size + 1, 4, none⟩ = some (.string t) ∧ w'.cell? ⟨w.heap.size + 1 + 1, 4, none⟩ = some (.string m) ∧ Below w.heap.size w w' ∧ w.heap.size + 1 + 1 < w'.heap.size) (first | exact SD.out | exact SB.out | exact HKP.out _ _ SD.out hbx | exact HKP.out _ _ SB.out hbx | exact HKP.out _ _ (by assumption) hbx) (first | (go_at_call 15; (with_reducible refine (H32.out _).mono ?_); rintro e w' ⟨rfl, hbx⟩) | (go_at_call 17; (with_reducible refine (H64.out _).mono ?_); rintro e w' ⟨rfl, hbx⟩) | (go_at_call 6; (with_reducible refine (awake_ok _).mono ?_); rintro e w' ⟨rfl, hbx⟩))
  have HF : Hid (Below w.heap.size w w') := by go_split_ands; assumption
  rename_i hHeld
  clear hHeld
  go_wp2
  go_ret
  exact ⟨rfl, HF.out⟩

set_option maxRecDepth 100000 in
set_option maxHeartbeats 1000000 in
theorem known_at5 (n : Nat) (hn : n < 256) (w : World) (hm : (n : Int) % 7 = 5) : Calls Tryd.prog 5 #[.int .u8 (n : Int)] w fun e w' => e = .returned (.bool true) ∧ Below w.heap.size w w' := by
  have hcv0 : IntKind.i64.wrap (n : Int) = (n : Int) := by rw [IntKind.wrap_i64]; omega
  have hcv := sha_conv w
  have hbad : ∀ w, Calls Tryd.prog 9 #[.string ⟨#[90, 109, 57]⟩] w fun e w' => e = .returned (.tuple #[.string ⟨#[]⟩, .bool false]) ∧ Below w.heap.size w w' := fun w => by
    have h := getBase64_any ⟨#[90, 109, 57]⟩ w (by decide)
    rw [show get64 (⟨#[90, 109, 57]⟩ : ByteArray).data.toList = none from knownBad.2.2.2.2.2.1] at h
    exact h
  have H32 : Hid (∀ w, Calls Tryd.prog 15 #[.string ⟨shaL.toArray⟩] w fun e w' => e = .returned (.string ⟨#[48, 109, 100, 113, 97, 57, 119, 49, 112, 54, 99, 109, 108, 105, 54, 57, 55, 54, 118, 52, 119, 105, 48, 115, 119, 57, 114, 52, 112, 53, 112, 114, 107, 106, 55, 108, 122, 102, 100, 49, 56, 55, 55, 119, 107, 49, 49, 99, 57, 99, 55, 51]⟩) ∧ Below w.heap.size w w') := Lib.hid fun w => by
    have h := base32_any ⟨shaL.toArray⟩ w (by decide)
    rw [show (b32 (⟨shaL.toArray⟩ : ByteArray).data.toList).toArray = #[48, 109, 100, 113, 97, 57, 119, 49, 112, 54, 99, 109, 108, 105, 54, 57, 55, 54, 118, 52, 119, 105, 48, 115, 119, 57, 114, 52, 112, 53, 112, 114, 107, 106, 55, 108, 122, 102, 100, 49, 56, 55, 55, 119, 107, 49, 49, 99, 57, 99, 55, 51] from known32] at h
    exact h
  have H64 : Hid (∀ w, Calls Tryd.prog 17 #[.string ⟨#[102, 111, 111, 98, 97]⟩] w fun e w' => e = .returned (.string ⟨#[90, 109, 57, 118, 89, 109, 69, 61]⟩) ∧ Below w.heap.size w w') := Lib.hid fun w => by
    have h := base64_any ⟨#[102, 111, 111, 98, 97]⟩ w (by decide)
    rw [show (b64 (⟨#[102, 111, 111, 98, 97]⟩ : ByteArray).data.toList).toArray = #[90, 109, 57, 118, 89, 109, 69, 61] from known64.2.2.2.2.2.1] at h
    exact h
  have HFC := Lib.hid (four_cells w (.cells #[.int .u8 227, .int .u8 176, .int .u8 196, .int .u8 66, .int .u8 152, .int .u8 252, .int .u8 28, .int .u8 20, .int .u8 154, .int .u8 251, .int .u8 244, .int .u8 200, .int .u8 153, .int .u8 111, .int .u8 185, .int .u8 36, .int .u8 39, .int .u8 174, .int .u8 65, .int .u8 228, .int .u8 100, .int .u8 155, .int .u8 147, .int .u8 76, .int .u8 164, .int .u8 149, .int .u8 153, .int .u8 27, .int .u8 120, .int .u8 82, .int .u8 184, .int .u8 85] 5) (.cells #[.string ⟨#[]⟩, .string ⟨#[102]⟩, .string ⟨#[102, 111]⟩, .string ⟨#[102, 111, 111]⟩, .string ⟨#[102, 111, 111, 98]⟩, .string ⟨#[102, 111, 111, 98, 97]⟩, .string ⟨#[102, 111, 111, 98, 97, 114]⟩] 9) (.cells #[.string ⟨#[]⟩, .string ⟨#[90, 103, 61, 61]⟩, .string ⟨#[90, 109, 56, 61]⟩, .string ⟨#[90, 109, 57, 118]⟩, .string ⟨#[90, 109, 57, 118, 89, 103, 61, 61]⟩, .string ⟨#[90, 109, 57, 118, 89, 109, 69, 61]⟩, .string ⟨#[90, 109, 57, 118, 89, 109, 70, 121]⟩] 9) (.cells #[.string ⟨#[90, 103, 61]⟩, .string ⟨#[90, 104, 61, 61]⟩, .string ⟨#[90]⟩, .string ⟨#[90, 109, 56]⟩, .string ⟨#[61]⟩, .string ⟨#[90, 109, 57]⟩, .string ⟨#[90, 103, 61, 61, 61]⟩] 9))
  go_enter Tryd.func5, Tryd.ntmps5
  go_wp2_with fail
  go_at_call 9
  refine (hbad _).mono ?_
  rintro e w1 ⟨rfl, hb1⟩
  obtain ⟨c1, c2, hB, hZ⟩ := HFC.out w1 hb1
  have q0 : w1.cell? ⟨w.heap.size + 1, 5, none⟩ = some (.string ⟨#[102, 111, 111, 98, 97]⟩) := by rw [Lib.cell_of_heap c1]; rfl
  have q1 : w1.cell? ⟨w.heap.size + 1 + 1, 5, none⟩ = some (.string ⟨#[90, 109, 57, 118, 89, 109, 69, 61]⟩) := by rw [Lib.cell_of_heap c2]; rfl
  clear hb1 c1 c2 HFC hbad hcv
  obtain ⟨t, ht⟩ : ∃ t : ByteArray, Hid (t = ⟨#[102, 111, 111, 98, 97]⟩) := ⟨_, Lib.hid rfl⟩
  obtain ⟨m, hmm⟩ : ∃ m : ByteArray, Hid (m = ⟨#[90, 109, 57, 118, 89, 109, 69, 61]⟩) := ⟨_, Lib.hid rfl⟩
  rw [← ht.out] at q0 H64
  rw [← hmm.out] at q1 H64
  clear ht hmm
  have HKP : Hid (∀ wa wb, (wa.cell? ⟨w.heap.size + 1, 5, none⟩ = some (.string t) ∧ wa.cell? ⟨w.heap.size + 1 + 1, 5, none⟩ = some (.string m) ∧ Below w.heap.size w wa ∧ w.heap.size + 1 + 1 < wa.heap.size) → Below wa.heap.size wa wb → (wb.cell? ⟨w.heap.size + 1, 5, none⟩ = some (.string t) ∧ wb.cell? ⟨w.heap.size + 1 + 1, 5, none⟩ = some (.string m) ∧ Below w.heap.size w wb ∧ w.heap.size + 1 + 1 < wb.heap.size)) := by
    apply Lib.hid
    rintro wa wb ⟨a1, a2, a7, a8⟩ hb
    exact ⟨(hb.cell (p := ⟨w.heap.size + 1, 5, none⟩) (by show w.heap.size + 1 < _; omega)).trans a1, (hb.cell (p := ⟨w.heap.size + 1 + 1, 5, none⟩) (by show w.heap.size + 1 + 1 < _; omega)).trans a2, below_step a7 hb, Nat.lt_of_lt_of_le a8 hb.size⟩
  have SB : Hid (w1.cell? ⟨w.heap.size + 1, 5, none⟩ = some (.string t) ∧ w1.cell? ⟨w.heap.size + 1 + 1, 5, none⟩ = some (.string m) ∧ Below w.heap.size w w1 ∧ w.heap.size + 1 + 1 < w1.heap.size) := Lib.hid ⟨q0, q1, hB, hZ⟩
  have SD : Hid (w1.drew.cell? ⟨w.heap.size + 1, 5, none⟩ = some (.string t) ∧ w1.drew.cell? ⟨w.heap.size + 1 + 1, 5, none⟩ = some (.string m) ∧ Below w.heap.size w w1.drew ∧ w.heap.size + 1 + 1 < w1.drew.heap.size) := Lib.hid ⟨q0, q1, hB.drew, hZ⟩
  clear q0 q1 hB hZ
  go_wp2
  go_region_held3 (fun w' => w'.cell? ⟨w.heap.size + 1, 5, none⟩ = some (.string t) ∧ w'.cell? ⟨w.heap.size + 1 + 1, 5, none⟩ = some (.string m) ∧ Below w.heap.size w w' ∧ w.heap.size + 1 + 1 < w'.heap.size) (first | exact SD.out | exact SB.out | exact HKP.out _ _ SD.out hbx | exact HKP.out _ _ SB.out hbx | exact HKP.out _ _ (by assumption) hbx) (first | (go_at_call 15; (with_reducible refine (H32.out _).mono ?_); rintro e w' ⟨rfl, hbx⟩) | (go_at_call 17; (with_reducible refine (H64.out _).mono ?_); rintro e w' ⟨rfl, hbx⟩) | (go_at_call 6; (with_reducible refine (awake_ok _).mono ?_); rintro e w' ⟨rfl, hbx⟩))
  have HF : Hid (Below w.heap.size w w') := by go_split_ands; assumption
  rename_i hHeld
  clear hHeld
  go_wp2
  go_ret
  exact ⟨rfl, HF.out⟩

set_option maxRecDepth 100000 in
set_option maxHeartbeats 1000000 in
theorem known_at6 (n : Nat) (hn : n < 256) (w : World) (hm : (n : Int) % 7 = 6) : Calls Tryd.prog 5 #[.int .u8 (n : Int)] w fun e w' => e = .returned (.bool true) ∧ Below w.heap.size w w' := by
  have hcv0 : IntKind.i64.wrap (n : Int) = (n : Int) := by rw [IntKind.wrap_i64]; omega
  have hcv := sha_conv w
  have hbad : ∀ w, Calls Tryd.prog 9 #[.string ⟨#[90, 103, 61, 61, 61]⟩] w fun e w' => e = .returned (.tuple #[.string ⟨#[]⟩, .bool false]) ∧ Below w.heap.size w w' := fun w => by
    have h := getBase64_any ⟨#[90, 103, 61, 61, 61]⟩ w (by decide)
    rw [show get64 (⟨#[90, 103, 61, 61, 61]⟩ : ByteArray).data.toList = none from knownBad.2.2.2.2.2.2] at h
    exact h
  have H32 : Hid (∀ w, Calls Tryd.prog 15 #[.string ⟨shaL.toArray⟩] w fun e w' => e = .returned (.string ⟨#[48, 109, 100, 113, 97, 57, 119, 49, 112, 54, 99, 109, 108, 105, 54, 57, 55, 54, 118, 52, 119, 105, 48, 115, 119, 57, 114, 52, 112, 53, 112, 114, 107, 106, 55, 108, 122, 102, 100, 49, 56, 55, 55, 119, 107, 49, 49, 99, 57, 99, 55, 51]⟩) ∧ Below w.heap.size w w') := Lib.hid fun w => by
    have h := base32_any ⟨shaL.toArray⟩ w (by decide)
    rw [show (b32 (⟨shaL.toArray⟩ : ByteArray).data.toList).toArray = #[48, 109, 100, 113, 97, 57, 119, 49, 112, 54, 99, 109, 108, 105, 54, 57, 55, 54, 118, 52, 119, 105, 48, 115, 119, 57, 114, 52, 112, 53, 112, 114, 107, 106, 55, 108, 122, 102, 100, 49, 56, 55, 55, 119, 107, 49, 49, 99, 57, 99, 55, 51] from known32] at h
    exact h
  have H64 : Hid (∀ w, Calls Tryd.prog 17 #[.string ⟨#[102, 111, 111, 98, 97, 114]⟩] w fun e w' => e = .returned (.string ⟨#[90, 109, 57, 118, 89, 109, 70, 121]⟩) ∧ Below w.heap.size w w') := Lib.hid fun w => by
    have h := base64_any ⟨#[102, 111, 111, 98, 97, 114]⟩ w (by decide)
    rw [show (b64 (⟨#[102, 111, 111, 98, 97, 114]⟩ : ByteArray).data.toList).toArray = #[90, 109, 57, 118, 89, 109, 70, 121] from known64.2.2.2.2.2.2] at h
    exact h
  have HFC := Lib.hid (four_cells w (.cells #[.int .u8 227, .int .u8 176, .int .u8 196, .int .u8 66, .int .u8 152, .int .u8 252, .int .u8 28, .int .u8 20, .int .u8 154, .int .u8 251, .int .u8 244, .int .u8 200, .int .u8 153, .int .u8 111, .int .u8 185, .int .u8 36, .int .u8 39, .int .u8 174, .int .u8 65, .int .u8 228, .int .u8 100, .int .u8 155, .int .u8 147, .int .u8 76, .int .u8 164, .int .u8 149, .int .u8 153, .int .u8 27, .int .u8 120, .int .u8 82, .int .u8 184, .int .u8 85] 5) (.cells #[.string ⟨#[]⟩, .string ⟨#[102]⟩, .string ⟨#[102, 111]⟩, .string ⟨#[102, 111, 111]⟩, .string ⟨#[102, 111, 111, 98]⟩, .string ⟨#[102, 111, 111, 98, 97]⟩, .string ⟨#[102, 111, 111, 98, 97, 114]⟩] 9) (.cells #[.string ⟨#[]⟩, .string ⟨#[90, 103, 61, 61]⟩, .string ⟨#[90, 109, 56, 61]⟩, .string ⟨#[90, 109, 57, 118]⟩, .string ⟨#[90, 109, 57, 118, 89, 103, 61, 61]⟩, .string ⟨#[90, 109, 57, 118, 89, 109, 69, 61]⟩, .string ⟨#[90, 109, 57, 118, 89, 109, 70, 121]⟩] 9) (.cells #[.string ⟨#[90, 103, 61]⟩, .string ⟨#[90, 104, 61, 61]⟩, .string ⟨#[90]⟩, .string ⟨#[90, 109, 56]⟩, .string ⟨#[61]⟩, .string ⟨#[90, 109, 57]⟩, .string ⟨#[90, 103, 61, 61, 61]⟩] 9))
  go_enter Tryd.func5, Tryd.ntmps5
  go_wp2_with fail
  go_at_call 9
  refine (hbad _).mono ?_
  rintro e w1 ⟨rfl, hb1⟩
  obtain ⟨c1, c2, hB, hZ⟩ := HFC.out w1 hb1
  have q0 : w1.cell? ⟨w.heap.size + 1, 6, none⟩ = some (.string ⟨#[102, 111, 111, 98, 97, 114]⟩) := by rw [Lib.cell_of_heap c1]; rfl
  have q1 : w1.cell? ⟨w.heap.size + 1 + 1, 6, none⟩ = some (.string ⟨#[90, 109, 57, 118, 89, 109, 70, 121]⟩) := by rw [Lib.cell_of_heap c2]; rfl
  clear hb1 c1 c2 HFC hbad hcv
  obtain ⟨t, ht⟩ : ∃ t : ByteArray, Hid (t = ⟨#[102, 111, 111, 98, 97, 114]⟩) := ⟨_, Lib.hid rfl⟩
  obtain ⟨m, hmm⟩ : ∃ m : ByteArray, Hid (m = ⟨#[90, 109, 57, 118, 89, 109, 70, 121]⟩) := ⟨_, Lib.hid rfl⟩
  rw [← ht.out] at q0 H64
  rw [← hmm.out] at q1 H64
  clear ht hmm
  have HKP : Hid (∀ wa wb, (wa.cell? ⟨w.heap.size + 1, 6, none⟩ = some (.string t) ∧ wa.cell? ⟨w.heap.size + 1 + 1, 6, none⟩ = some (.string m) ∧ Below w.heap.size w wa ∧ w.heap.size + 1 + 1 < wa.heap.size) → Below wa.heap.size wa wb → (wb.cell? ⟨w.heap.size + 1, 6, none⟩ = some (.string t) ∧ wb.cell? ⟨w.heap.size + 1 + 1, 6, none⟩ = some (.string m) ∧ Below w.heap.size w wb ∧ w.heap.size + 1 + 1 < wb.heap.size)) := by
    apply Lib.hid
    rintro wa wb ⟨a1, a2, a7, a8⟩ hb
    exact ⟨(hb.cell (p := ⟨w.heap.size + 1, 6, none⟩) (by show w.heap.size + 1 < _; omega)).trans a1, (hb.cell (p := ⟨w.heap.size + 1 + 1, 6, none⟩) (by show w.heap.size + 1 + 1 < _; omega)).trans a2, below_step a7 hb, Nat.lt_of_lt_of_le a8 hb.size⟩
  have SB : Hid (w1.cell? ⟨w.heap.size + 1, 6, none⟩ = some (.string t) ∧ w1.cell? ⟨w.heap.size + 1 + 1, 6, none⟩ = some (.string m) ∧ Below w.heap.size w w1 ∧ w.heap.size + 1 + 1 < w1.heap.size) := Lib.hid ⟨q0, q1, hB, hZ⟩
  have SD : Hid (w1.drew.cell? ⟨w.heap.size + 1, 6, none⟩ = some (.string t) ∧ w1.drew.cell? ⟨w.heap.size + 1 + 1, 6, none⟩ = some (.string m) ∧ Below w.heap.size w w1.drew ∧ w.heap.size + 1 + 1 < w1.drew.heap.size) := Lib.hid ⟨q0, q1, hB.drew, hZ⟩
  clear q0 q1 hB hZ
  go_wp2
  go_region_held3 (fun w' => w'.cell? ⟨w.heap.size + 1, 6, none⟩ = some (.string t) ∧ w'.cell? ⟨w.heap.size + 1 + 1, 6, none⟩ = some (.string m) ∧ Below w.heap.size w w' ∧ w.heap.size + 1 + 1 < w'.heap.size) (first | exact SD.out | exact SB.out | exact HKP.out _ _ SD.out hbx | exact HKP.out _ _ SB.out hbx | exact HKP.out _ _ (by assumption) hbx) (first | (go_at_call 15; (with_reducible refine (H32.out _).mono ?_); rintro e w' ⟨rfl, hbx⟩) | (go_at_call 17; (with_reducible refine (H64.out _).mono ?_); rintro e w' ⟨rfl, hbx⟩) | (go_at_call 6; (with_reducible refine (awake_ok _).mono ?_); rintro e w' ⟨rfl, hbx⟩))
  have HF : Hid (Below w.heap.size w w') := by go_split_ands; assumption
  rename_i hHeld
  clear hHeld
  go_wp2
  go_ret
  exact ⟨rfl, HF.out⟩

theorem known_law (n : Nat) (hn : n < 256) (w : World) : Calls Tryd.prog 5 #[.int .u8 (n : Int)] w fun e w' => e = .returned (.bool true) ∧ Below w.heap.size w w' := by
  rcases (show n % 7 = 0 ∨ n % 7 = 1 ∨ n % 7 = 2 ∨ n % 7 = 3 ∨ n % 7 = 4 ∨ n % 7 = 5 ∨ n % 7 = 6 by omega) with h | h | h | h | h | h | h
  · exact known_at0 n hn w (by omega)
  · exact known_at1 n hn w (by omega)
  · exact known_at2 n hn w (by omega)
  · exact known_at3 n hn w (by omega)
  · exact known_at4 n hn w (by omega)
  · exact known_at5 n hn w (by omega)
  · exact known_at6 n hn w (by omega)
end Go.Proofs.YtkkdcecnegdipaaDoor
