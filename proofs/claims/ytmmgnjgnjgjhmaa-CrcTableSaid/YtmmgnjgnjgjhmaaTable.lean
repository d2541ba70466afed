/- The law CrcTable walked: it returns true at any two bytes, and no memory that was there is changed. -/
import Derived.Test.YtmmgnjgnjgjhmaaAwake
import Derived.Deep.RegionHeld3
import Derived.BigQuiet
namespace Go.Proofs.Ytmmgnjgnjgjhmaa
open Go.RowKit
set_option linter.unusedVariables false

set_option maxRecDepth 100000 in
set_option maxHeartbeats 2000000 in
theorem table_law (a b : Nat) (ha : a < 256) (hb : b < 256) (w : World) :
    Calls Try.prog 5 #[.int .u8 a, .int .u8 b] w fun e w' => e = .returned (.bool true) ∧ Below w.heap.size w w' := by
  go_enter Try.func5, Try.ntmps5
  go_wp2_with fail
  refine (ltab_any _).mono ?_
  rintro e w1 ⟨g, rfl, hg0, hg1, hc1, hb1⟩
  go_wp2_with fail
  refine (rtab_at _).mono ?_
  rintro e w2 ⟨g2, cap, rfl, hc2, hb2⟩
  have hz0 : w2.cell? ⟨g, 0, none⟩ = some (.int .u32 0) := (hb2.cell (p := ⟨g, 0, none⟩) hg1).trans (hc1 0 (by omega))
  have hz1 : w2.cell? ⟨g, 1, none⟩ = some (.int .u32 1996959894) := (hb2.cell (p := ⟨g, 1, none⟩) hg1).trans (hc1 1 (by omega))
  have hz255 : w2.cell? ⟨g, 255, none⟩ = some (.int .u32 755167117) := (hb2.cell (p := ⟨g, 255, none⟩) hg1).trans (hc1 255 (by omega))
  have hza : w2.cell? ⟨g, a, none⟩ = some (.int .u32 (tabN a)) := (hb2.cell (p := ⟨g, a, none⟩) hg1).trans (hc1 a ha)
  have hzb : w2.cell? ⟨g, b, none⟩ = some (.int .u32 (tabN b)) := (hb2.cell (p := ⟨g, b, none⟩) hg1).trans (hc1 b hb)
  have hza2 : w2.cell? ⟨g2, a, none⟩ = some (.int .u32 (tabN a)) := hc2 a ha
  have HB : Hid (Below w.heap.size w w2) := Lib.hid (hb1.trans (hb2.mono hb1.size))
  have hgl : Hid (g < w2.heap.size) := Lib.hid (Nat.lt_of_lt_of_le hg1 hb2.size)
  have hg2l : Hid (g2 < w2.heap.size) := Lib.hid (block_lt_of_cell hza2)
  have ha0 : (0 : Int) ≤ (a : Int) := by omega
  have ha1 : (a : Int) < 256 := by omega
  have hb0 : (0 : Int) ≤ (b : Int) := by omega
  have hb1' : (b : Int) < 256 := by omega
  by_cases e : a = b
  · subst e
    clear hc1 hc2 hb1 hb2 hg0 hg1 hzb
    generalize tabN a = ta at *
    go_wp2
    go_region_held3 (fun w' => w'.cell? ⟨g, 0, none⟩ = some (.int .u32 0) ∧ w'.cell? ⟨g, 1, none⟩ = some (.int .u32 1996959894) ∧ w'.cell? ⟨g, 255, none⟩ = some (.int .u32 755167117) ∧ w'.cell? ⟨g, a, none⟩ = some (.int .u32 ta) ∧ w'.cell? ⟨g2, a, none⟩ = some (.int .u32 ta)) (first | exact ⟨hz0, hz1, hz255, hza, hza2⟩ | exact ⟨(hb3.cell (p := ⟨g, 0, none⟩) hgl.out).trans hz0, (hb3.cell (p := ⟨g, 1, none⟩) hgl.out).trans hz1, (hb3.cell (p := ⟨g, 255, none⟩) hgl.out).trans hz255, (hb3.cell (p := ⟨g, a, none⟩) hgl.out).trans hza, (hb3.cell (p := ⟨g2, a, none⟩) hg2l.out).trans hza2⟩) (first | (go_at_call 8; refine (awake_ok _).mono ?_; rintro e w3 ⟨rfl, hb3⟩))
    have HB3 : Hid (Below w.heap.size w w3) := Lib.hid (HB.out.trans ((Below.refl _ w2).drew.trans hb3 |>.mono HB.out.size))
    rename_i hHeld
    clear hHeld hb3
    go_wp2
    go_ret
    exact ⟨rfl, HB3.out⟩
  · have e1 : (((tabN a : Nat) : Int) == ((tabN b : Nat) : Int)) = false := by
      rw [Bool.eq_false_iff]; intro h; rw [beq_iff_eq] at h; exact e (tab_inj a b ha hb (by omega))
    have e2 : ((a : Int) == (b : Int)) = false := by
      rw [Bool.eq_false_iff]; intro h; rw [beq_iff_eq] at h; omega
    clear hc1 hc2 hb1 hb2 hg0 hg1 e
    generalize tabN a = ta at *
    generalize tabN b = tb at *
    go_wp2
    go_region_held3 (fun w' => w'.cell? ⟨g, 0, none⟩ = some (.int .u32 0) ∧ w'.cell? ⟨g, 1, none⟩ = some (.int .u32 1996959894) ∧ w'.cell? ⟨g, 255, none⟩ = some (.int .u32 755167117) ∧ w'.cell? ⟨g, a, none⟩ = some (.int .u32 ta) ∧ w'.cell? ⟨g, b, none⟩ = some (.int .u32 tb) ∧ w'.cell? ⟨g2, a, none⟩ = some (.int .u32 ta)) (first | exact ⟨hz0, hz1, hz255, hza, hzb, hza2⟩ | exact ⟨(hb3.cell (p := ⟨g, 0, none⟩) hgl.out).trans hz0, (hb3.cell (p := ⟨g, 1, none⟩) hgl.out).trans hz1, (hb3.cell (p := ⟨g, 255, none⟩) hgl.out).trans hz255, (hb3.cell (p := ⟨g, a, none⟩) hgl.out).trans hza, (hb3.cell (p := ⟨g, b, none⟩) hgl.out).trans hzb, (hb3.cell (p := ⟨g2, a, none⟩) hg2l.out).trans hza2⟩) (first | (go_at_call 8; refine (awake_ok _).mono ?_; rintro e w3 ⟨rfl, hb3⟩))
    have HB3 : Hid (Below w.heap.size w w3) := Lib.hid (HB.out.trans ((Below.refl _ w2).drew.trans hb3 |>.mono HB.out.size))
    rename_i hHeld
    clear hHeld hb3
    go_wp2
    go_ret
    exact ⟨rfl, HB3.out⟩
end Go.Proofs.Ytmmgnjgnjgjhmaa
