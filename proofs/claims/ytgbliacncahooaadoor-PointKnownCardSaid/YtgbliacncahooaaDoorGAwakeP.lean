/- The document's example of package point holds. No condition but that the numbers stand in memory. -/
import Derived.Test.YtgbliacncahooaaDoorGBytesP
import Derived.Test.YtgbliacncahooaaDoorGExA
import Derived.Test.YtgbliacncahooaaDoorGOnP
import Derived.Test.YtgbliacncahooaaDoorGOvA
namespace Go.Proofs.YtgbliacncahooaaDoor
open Go.RowKit Go.Shelf
set_option linter.unusedVariables false
set_option linter.unusedSimpArgs false
/-- The first letters of the example's bytes. -/
def awk (k : Nat) : ByteArray := ⟨(88 :: List.replicate k 102).toArray⟩
theorem awk_size (k : Nat) : (awk k).size = k + 1 := by
  show ((88 : UInt8) :: List.replicate k 102).length = k + 1
  simp
theorem awk_succ (k : Nat) : awk k ++ ⟨#[102]⟩ = awk (k + 1) := by
  unfold awk
  apply ByteArray.ext
  rw [ByteArray.data_append]
  simp [List.replicate_succ']
theorem awk_base : (⟨(bytesN (encP (baseN.1, baseN.2))).toArray⟩ : ByteArray) = awk 31 := by decide +kernel
def szOf : Value → Nat
  | .string s => s.size
  | _ => 0
set_option maxRecDepth 100000 in
set_option maxHeartbeats 2000000 in
theorem awake_any (w : World) (hG0 : Glob w) :
    Calls Tryd.prog 10 #[] w fun e w' => e = .returned (.bool true) ∧ Below w.heap.size w w' := by
  have HG := Lib.hid hG0
  have HC1 : Hid (∀ w, Glob w → _) := Lib.hid (base_any)
  have HC5 := Lib.hid (bytes_pt ((baseN).1) ((baseN).2) (pp_lt (onN_lt (baseN_on)).1) (onN_lt (baseN_on)).2)
  rw [awk_base] at HC5
  have HC9 := Lib.hid (nought_any)
  have HC10 : Hid (∀ w, Glob w → _) := Lib.hid (on_pt (0) (1) (noneN_on))
  obtain ⟨NN2, hNN2⟩ : ∃ zz9, Hid (zz9 = num ((baseN).1)) := ⟨_, Lib.hid rfl⟩
  have INN2 : IsNum NN2 := by rw [hNN2.out]; exact isNum _
  obtain ⟨NN3, hNN3⟩ : ∃ zz9, Hid (zz9 = num ((baseN).2)) := ⟨_, Lib.hid rfl⟩
  have INN3 : IsNum NN3 := by rw [hNN3.out]; exact isNum _
  obtain ⟨PP4, hPP4⟩ : ∃ zz9, Hid (zz9 = NN2 ++ NN3) := ⟨_, Lib.hid rfl⟩
  have IPP4 : IsRw 8 PP4 := by rw [hPP4.out]; exact rw_app (isRw4 INN2) (isRw4 INN3)
  have SPP4_0 : Part PP4 0 NN2 := by rw [hPP4.out]; exact part_left 0 (part_all NN2) NN3
  have SPP4_4 : Part PP4 4 NN3 := by rw [hPP4.out]; exact part_right (NN2) NN3 4 (by simp [INN2.size])
  obtain ⟨NN6, hNN6⟩ : ∃ zz9, Hid (zz9 = num (0)) := ⟨_, Lib.hid rfl⟩
  have INN6 : IsNum NN6 := by rw [hNN6.out]; exact isNum _
  obtain ⟨NN7, hNN7⟩ : ∃ zz9, Hid (zz9 = num (1)) := ⟨_, Lib.hid rfl⟩
  have INN7 : IsNum NN7 := by rw [hNN7.out]; exact isNum _
  obtain ⟨PP8, hPP8⟩ : ∃ zz9, Hid (zz9 = NN6 ++ NN7) := ⟨_, Lib.hid rfl⟩
  have IPP8 : IsRw 8 PP8 := by rw [hPP8.out]; exact rw_app (isRw4 INN6) (isRw4 INN7)
  have SPP8_0 : Part PP8 0 NN6 := by rw [hPP8.out]; exact part_left 0 (part_all NN6) NN7
  have SPP8_4 : Part PP8 4 NN7 := by rw [hPP8.out]; exact part_right (NN6) NN7 4 (by simp [INN6.size])
  try simp only [← hNN2.out, ← hNN3.out, ← hNN6.out, ← hNN7.out] at HC1 HC5 HC9 HC10 ⊢
  try simp only [← hPP4.out, ← hPP8.out] at HC1 HC5 HC9 HC10 ⊢
  clear hNN2 hNN3 hPP4 hNN6 hNN7 hPP8 hG0
  have HA := Lib.hid awk_succ
  have HZ := Lib.hid awk_size
  go_enter Tryd.func10, Tryd.ntmps10
  go_wp2
  go_loopw [1] (fun v wr => ∃ k : Nat, k ≤ 31 ∧ v = .string (awk k) ∧ Kt w [] wr) (fun v _ => 40 - szOf v)
  case atStart => exact ⟨0, by omega, rfl, Kt.nil w⟩
  case round =>
    obtain ⟨k, hk, rfl, hK⟩ := hrel
    have HS := Lib.hid hK
    clear hK
    by_cases hlt : k < 31
    · have hl : ((k + 1 : Nat) : Int) < 32 := by omega
      have hz := HZ.out k
      have hcat := HA.out k
      have h1 : (awk k).size ≤ 1000000 := by rw [hz]; omega
      have h2 : (⟨#[102]⟩ : ByteArray).size ≤ 1000000 := by decide
      go_wp2_with (first | (refine wpList_run rfl _ (exec_len9 (.tmp 2) rfl (awk k) (k + 1) hz rfl _) ?_) | (refine wpList_run rfl (.string (awk (k + 1))) (by rw [← hcat]; exact exec_cat (.tmp 5) (.const (.string ⟨#[102]⟩)) rfl (awk k) ⟨#[102]⟩ h1 h2 rfl rfl _) ?_))
      go_roundw
      case rel => exact ⟨k + 1, by omega, rfl, HS.out⟩
      case measure => show 40 - (awk (k + 1)).size < 40 - (awk k).size; rw [HZ.out, HZ.out]; omega
    · obtain rfl : k = 31 := by omega
      have hz := HZ.out 31
      clear HA HZ
      go_wp2_with (refine wpList_run rfl _ (exec_len9 (.tmp 2) rfl (awk 31) 32 hz rfl _) ?_)
      refine (HC1.out _ (HG.out.below HS.out.1)).mono ?_
      rintro e w1 ⟨rfl, hb⟩
      have HS1 := Lib.hid (HS.out.below hb)
      clear hb HS
      go_wp2_with fail
      refine (HC5.out _).mono ?_
      rintro e w2 ⟨rfl, hb⟩
      have HS2 := Lib.hid (HS1.out.below hb)
      clear hb HS1
      go_wp2_with (refine wpList_run rfl (.bool true) (exec_eq9_same (.tmp 8) (.tmp 9) rfl (awk 31) rfl rfl _) ?_)
      refine (HC9.out _).mono ?_
      rintro e w3 ⟨rfl, hb⟩
      have HS3 := Lib.hid (HS2.out.below hb)
      clear hb HS2
      go_wp2_with fail
      refine (HC10.out _ (HG.out.below HS3.out.1)).mono ?_
      rintro e w4 ⟨rfl, hb⟩
      have HS4 := Lib.hid (HS3.out.below hb)
      clear hb HS3
      go_wp2
      go_ret
      exact ⟨rfl, HS4.out.1⟩
end Go.Proofs.YtgbliacncahooaaDoor
