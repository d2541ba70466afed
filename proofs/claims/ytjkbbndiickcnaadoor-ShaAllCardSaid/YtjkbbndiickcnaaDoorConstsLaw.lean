/- The law ShaConsts walked: it returns true at any number, and no memory that was there is changed. -/
import Derived.Test.YtjkbbndiickcnaaDoorRConsts
import Derived.Test.YtjkbbndiickcnaaDoorKnownB
import Derived.Deep.RegionHeld3
namespace Go.Proofs.YtjkbbndiickcnaaDoor
open Go.RowKit
set_option linter.unusedVariables false
theorem kL_at (j : Nat) (hj : j < 64) : kL[j]? = some (kN j) := by
  unfold kN
  rw [List.getD_eq_getElem?_getD, List.getElem?_eq_getElem (by rw [kL_len]; exact hj)]; rfl
set_option maxRecDepth 100000 in
set_option maxHeartbeats 1000000 in
theorem consts_law (n : Nat) (hn : n < 256) (w : World) (hG : Glob w) : Calls Tryd.prog 6 #[.int .u8 n] w fun e w' => e = .returned (.bool true) ∧ Below w.heap.size w w' := by
  have HG0 := Lib.hid hG
  clear hG
  go_enter Tryd.func6, Tryd.ntmps6
  go_wp2_with fail
  refine (consts_any w HG0.out).mono ?_
  rintro e w1 ⟨rfl, hrow, hb1⟩
  have HR := Lib.hid hrow
  have HB1 := Lib.hid hb1
  have HG1 := Lib.hid (HG0.out.below hb1)
  clear hrow hb1 HG0
  go_wp2_with fail
  refine (rconsts_any w1).mono ?_
  rintro e w2 ⟨p, c, rfl, hown, hb2⟩
  obtain ⟨g, rfl⟩ := own_some hown (by omega)
  have hG1 := HG1.out.below hb2
  obtain ⟨j, hj0⟩ : ∃ j, Hid (j = n % 64) := ⟨_, Lib.hid rfl⟩
  have hjm : (n : Int) % 64 = (j : Int) := by rw [hj0.out]; omega
  have hj4 : j < 64 := by rw [hj0.out]; omega
  have hjI : (j : Int) < 64 := by omega
  have hj1 : Int.tmod (n : Int) 64 = (j : Int) := by rw [Int.tmod_eq_emod_of_nonneg (by omega)]; exact hjm
  have hj2 : IntKind.u8.wrap (j : Int) = (j : Int) := by simp [IntKind.wrap, IntKind.bits, IntKind.signed]; omega
  have hj3 : (0 : Int) ≤ (j : Int) := by omega
  have hj5 : ¬ (64 : Int) ≤ (j : Int) := by omega
  have q0 : w2.cell? ⟨w.heap.size, j, none⟩ = some (.int .u32 (kN j)) := (hb2.cell (p := ⟨w.heap.size, j, none⟩) HR.out.lt).trans (HR.out.cell j hj4)
  have q1 : w2.cell? ⟨g, j, none⟩ = some (.int .u32 (kN j)) := by
    rw [hown.cellAt j (by omega)]
    unfold numsV
    rw [List.getElem?_map, kL_at j hj4]; rfl
  have hz0 : Hid (w.heap.size < w2.heap.size) := Lib.hid (Nat.lt_of_lt_of_le HR.out.lt hb2.size)
  have hz1 : Hid (g < w2.heap.size) := Lib.hid (hown.lt g rfl).2
  have HBl : Hid (Below w.heap.size w w2) := Lib.hid (below_step HB1.out hb2)
  have hcc := own_le hown
  generalize kN j = x at *
  obtain ⟨g0, hg0⟩ : ∃ g0, g0 = w.heap.size := ⟨_, rfl⟩
  rw [← hg0] at q0 hz0 ⊢
  have HBl2 : Hid (Below g0 w w2) := by rw [hg0]; exact HBl.out
  have HGE := Lib.hid hg0
  clear hg0 HBl HR HB1 HG1 hown hb2
  have HKP : Hid (∀ wa wb, (wa.cell? ⟨g0, j, none⟩ = some (.int .u32 x) ∧ wa.cell? ⟨g, j, none⟩ = some (.int .u32 x) ∧ Glob wa ∧ Below g0 w wa ∧ g0 < wa.heap.size ∧ g < wa.heap.size) → Below wa.heap.size wa wb → (wb.cell? ⟨g0, j, none⟩ = some (.int .u32 x) ∧ wb.cell? ⟨g, j, none⟩ = some (.int .u32 x) ∧ Glob wb ∧ Below g0 w wb ∧ g0 < wb.heap.size ∧ g < wb.heap.size)) := by
    rintro wa wb ⟨a1, a2, a3, a4, a5, a6⟩ hb
    exact ⟨(hb.cell (p := ⟨g0, j, none⟩) a5).trans a1, (hb.cell (p := ⟨g, j, none⟩) a6).trans a2, a3.below hb, a4.trans (hb.mono (Nat.le_of_lt a5)), Nat.lt_of_lt_of_le a5 hb.size, Nat.lt_of_lt_of_le a6 hb.size⟩
  have SB : Hid (w2.cell? ⟨g0, j, none⟩ = some (.int .u32 x) ∧ w2.cell? ⟨g, j, none⟩ = some (.int .u32 x) ∧ Glob w2 ∧ Below g0 w w2 ∧ g0 < w2.heap.size ∧ g < w2.heap.size) := ⟨q0, q1, hG1, HBl2.out, hz0.out, hz1.out⟩
  have SD : Hid (w2.drew.cell? ⟨g0, j, none⟩ = some (.int .u32 x) ∧ w2.drew.cell? ⟨g, j, none⟩ = some (.int .u32 x) ∧ Glob w2.drew ∧ Below g0 w w2.drew ∧ g0 < w2.drew.heap.size ∧ g < w2.drew.heap.size) := ⟨q0, q1, hG1, HBl2.out.drew, hz0.out, hz1.out⟩
  go_wp2
  go_region_held3 (fun w' => w'.cell? ⟨g0, j, none⟩ = some (.int .u32 x) ∧ w'.cell? ⟨g, j, none⟩ = some (.int .u32 x) ∧ Glob w' ∧ Below g0 w w' ∧ g0 < w'.heap.size ∧ g < w'.heap.size) (first | exact SD.out | exact SB.out | exact HKP.out _ _ SD.out hbx | exact HKP.out _ _ SB.out hbx | exact HKP.out _ _ (by assumption) hbx) (first | (go_at_call 8; (with_reducible refine (awake_ok _ ?_).mono ?_); (first | exact hG1 | (go_split_ands; assumption)); rintro e w' ⟨rfl, hbx⟩))
  have HF : Hid (Below g0 w w') := by go_split_ands; assumption
  rename_i hHeld
  clear hHeld
  go_wp2
  go_ret
  exact ⟨rfl, by rw [← HGE.out]; exact HF.out⟩
end Go.Proofs.YtjkbbndiickcnaaDoor
