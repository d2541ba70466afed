/- May of package sig and of the document, which bytes fit: which names may be. No condition but that a name's length fits. -/
import Derived.Test.YtdajmekliodmcaaGreatDoorRBase
import Derived.Test.YtdajmekliodmcaaGreatDoorSigMath
import Derived.Shelf.Abstract
namespace Go.Proofs.YtdajmekliodmcaaGreatDoor
open Go.RowKit Go.Shelf
set_option linter.unusedVariables false
set_option linter.unusedSimpArgs false
theorem enters59 : ∀ args w, (callFunc 59 args).run Tryz.prog w = .ok (.enter 59 args) w := enters_of Tryz.func59 (by kernel_rfl) rfl
set_option maxRecDepth 100000 in
set_option maxHeartbeats 1000000 in
theorem fits_any (c : UInt8) (w : World) : Calls Tryz.prog 59 #[.int .u8 (c.toNat : Int)] w fun e w' => e = .returned (.bool (fitsC c)) ∧ w' = w := by
  obtain ⟨b, hb⟩ : ∃ b, Hid (b = fitsC c) := ⟨_, Lib.hid rfl⟩
  rw [← hb.out]
  go_enter Tryz.func59, Tryz.ntmps59
  go_wp2
  all_goals
    go_ret
    refine ⟨?_, rfl⟩
    rw [hb.out]
    refine congrArg Ending.returned (congrArg Value.bool ?_)
    rw [Bool.eq_iff_iff]
    simp [fitsC]
    omega
theorem all_step (l : List UInt8) (k : Nat) (hk : k < l.length) : ((l.take (k + 1)).all fitsC) = (((l.take k).all fitsC) && fitsC l[k]) := by
  rw [List.take_add_one, List.all_append, List.getElem?_eq_getElem hk]
  simp
theorem all_stop (l : List UInt8) (k : Nat) (hk : k < l.length) (h : fitsC l[k] = false) : l.all fitsC = false := by
  rw [List.all_eq_false]
  exact ⟨l[k], List.getElem_mem hk, by rw [h]; decide⟩
theorem mayL_bad {l : List UInt8} (h : ¬ (1 ≤ l.length ∧ l.length ≤ 64)) : mayL l = false := by
  unfold mayL
  by_cases h1 : 1 ≤ l.length
  · rw [decide_eq_true h1, decide_eq_false (fun h2 => h ⟨h1, h2⟩)]; rfl
  · rw [decide_eq_false h1]; rfl
theorem mayL_all {l : List UInt8} (h1 : 1 ≤ l.length) (h2 : l.length ≤ 64) : mayL l = l.all fitsC := by
  unfold mayL
  rw [decide_eq_true h1, decide_eq_true h2]; rfl
set_option maxRecDepth 100000 in
set_option maxHeartbeats 1000000 in
theorem may_any (s : ByteArray) (w : World) : Calls Tryz.prog 25 #[.string s] w fun e w' => e = .returned (.bool (mayL s.data.toList)) ∧ w' = w := by
  obtain ⟨b, hb⟩ : ∃ b, Hid (b = mayL s.data.toList) := ⟨_, Lib.hid rfl⟩
  rw [← hb.out]
  have hsl : s.data.toList.length = s.size := rfl
  by_cases hin : 1 ≤ s.size ∧ s.size ≤ 64
  · have h1 : ¬ (s.size : Int) < 1 := by omega
    have h2 : ¬ (s.size : Int) > 64 := by omega
    have hle : (s.size : Int) ≤ 64 := by omega
    have hB : Hid (b = s.data.toList.all fitsC) := by unfold Hid; rw [hb.out]; exact mayL_all hin.1 hin.2
    go_enter Tryz.func25, Tryz.ntmps25
    go_wp2
    go_loopw [14] (fun i wr => ∃ k : Nat, k ≤ s.size ∧ i = .int .i64 k ∧ (s.data.toList.take k).all fitsC = true ∧ wr = w) (fun i _ => s.size - (intOf i).toNat)
    case atStart => exact ⟨0, Nat.zero_le _, rfl, by simp, rfl⟩
    case round =>
      obtain ⟨k, hk, rfl, hall, rfl⟩ := hrel
      have HALL := Lib.hid hall
      clear hall
      by_cases hlt : k < s.size
      · have hltI : (k : Int) < (s.size : Int) := by omega
        cases hf : fitsC s[k] with
        | true =>
          have hst : Hid ((s.data.toList.take (k + 1)).all fitsC = true) := by
            unfold Hid
            rw [all_step _ k hlt, HALL.out]
            exact hf
          have HF := Lib.hid (fits_any s[k])
          rw [hf] at HF
          clear hf
          go_wp2_with (go_at_call 59; refine (HF.out _).mono ?_; rintro e w1 ⟨rfl, rfl⟩)
          go_roundw
          case rel => exact ⟨k + 1, by omega, by first | rfl | simp | go_num, hst.out, by simp⟩
          case measure => simp [intOf]; omega
        | false =>
          have hst : Hid (s.data.toList.all fitsC = false) := Lib.hid (all_stop _ k hlt hf)
          have HF := Lib.hid (fits_any s[k])
          rw [hf] at HF
          clear hf
          go_wp2_with (go_at_call 59; refine (HF.out _).mono ?_; rintro e w1 ⟨rfl, rfl⟩)
          go_ret
          exact ⟨by rw [hB.out, hst.out]; rfl, rfl⟩
      · obtain rfl : k = s.size := by omega
        have hfin : Hid (b = true) := by
          unfold Hid
          rw [hB.out, ← HALL.out, List.take_of_length_le (show s.data.toList.length ≤ s.size from Nat.le_refl _)]
        go_wp2
        go_ret
        exact ⟨by rw [hfin.out]; rfl, rfl⟩
  · have hB : Hid (b = false) := by unfold Hid; rw [hb.out]; exact mayL_bad hin
    by_cases hz : s.size = 0
    · have h1 : (s.size : Int) < 1 := by omega
      go_enter Tryz.func25, Tryz.ntmps25
      go_wp2
      go_ret
      exact ⟨by rw [hB.out]; rfl, rfl⟩
    · have h1 : ¬ (s.size : Int) < 1 := by omega
      have h2 : (s.size : Int) > 64 := by omega
      go_enter Tryz.func25, Tryz.ntmps25
      go_wp2
      go_ret
      exact ⟨by rw [hB.out]; rfl, rfl⟩
end Go.Proofs.YtdajmekliodmcaaGreatDoor
