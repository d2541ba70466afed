/- MayKey of the document: which names may be. Its condition: a length that fits. -/
import Derived.Test.YtdajmekliodmcaaGreatDoorMay
namespace Go.Proofs.YtdajmekliodmcaaGreatDoor
open Go.RowKit Go.Shelf
set_option linter.unusedVariables false
set_option linter.unusedSimpArgs false
theorem fits_iff (c : UInt8) : fitsC c = true ↔ (97 ≤ (c.toNat : Int) ∧ (c.toNat : Int) ≤ 122) ∨ (65 ≤ (c.toNat : Int) ∧ (c.toNat : Int) ≤ 90) ∨ (48 ≤ (c.toNat : Int) ∧ (c.toNat : Int) ≤ 57) ∨ (c.toNat : Int) = 45 ∨ (c.toNat : Int) = 46 ∨ (c.toNat : Int) = 95 := by
  simp [fitsC]
  omega
set_option maxRecDepth 100000 in
set_option maxHeartbeats 1000000 in
theorem mayKey_any (s : ByteArray) (hs : s.size ≤ 549755813888) (w : World) : Calls Tryz.prog 26 #[.string s] w fun e w' => e = .returned (.bool (mayL s.data.toList)) ∧ w' = w := by
  obtain ⟨b, hb⟩ : ∃ b, Hid (b = mayL s.data.toList) := ⟨_, Lib.hid rfl⟩
  rw [← hb.out]
  have hsl : s.data.toList.length = s.size := rfl
  go_enter Tryz.func26, Tryz.ntmps26
  go_wp2
  go_loopw [3] (fun i wr => ∃ k : Nat, k ≤ s.size ∧ i = .int .i64 k ∧ (s.data.toList.take k).all fitsC = true ∧ wr = w) (fun i _ => s.size - (intOf i).toNat)
  case atStart => exact ⟨0, Nat.zero_le _, rfl, by simp, rfl⟩
  case round =>
    obtain ⟨k, hk, rfl, hall, rfl⟩ := hrel
    have HALL := Lib.hid hall
    clear hall
    by_cases hlt : k < s.size
    · have hltI : (k : Int) < (s.size : Int) := by omega
      have hst : Hid (fitsC s[k] = true → (s.data.toList.take (k + 1)).all fitsC = true) := Lib.hid (fun h => by
        rw [all_step _ k hlt, HALL.out]
        exact h)
      have hbad : Hid (fitsC s[k] = false → b = false) := Lib.hid (fun h => by
        have h1 := all_stop s.data.toList k hlt h
        rw [hb.out]
        unfold mayL
        rw [h1, Bool.and_false])
      have hi : Hid (s[k] = s[k]) := Lib.hid rfl
      obtain ⟨c, hc⟩ : ∃ c, Hid (c = s[k]) := ⟨_, Lib.hid rfl⟩
      rw [← hc.out] at hst hbad
      have hF := Lib.hid (fits_iff c)
      go_wp2
      all_goals (try rw [← hc.out] at *)
      all_goals first
        | (have hff : fitsC c = false := by
             rw [Bool.eq_false_iff]
             intro h
             have h2 := hF.out.1 h
             simp at *
             omega
           have hz := hbad.out hff
           go_ret
           exact ⟨by rw [hz]; rfl, rfl⟩)
        | (have hff : fitsC c = true := by
             refine hF.out.2 ?_
             simp at *
             omega
           have hz := hst.out hff
           refine ⟨⟨k + 1, by omega, by first | rfl | simp | go_num, hz, trivial⟩, ?_⟩
           simp [intOf]
           omega)
    · obtain rfl : k = s.size := by omega
      have ht : Hid (s.data.toList.all fitsC = true) := by
        unfold Hid
        rw [← HALL.out, List.take_of_length_le (show s.data.toList.length ≤ s.size from Nat.le_refl _)]
      by_cases h1 : 1 ≤ s.size
      · have h1I : (s.size : Int) ≥ 1 := by omega
        by_cases h2 : s.size ≤ 64
        · have h2I : (s.size : Int) ≤ 64 := by omega
          have hfin : Hid (b = true) := by unfold Hid; rw [hb.out, mayL_all h1 h2]; exact ht.out
          go_wp2
          go_ret
          exact ⟨by rw [hfin.out]; rfl, rfl⟩
        · have h2I : ¬ (s.size : Int) ≤ 64 := by omega
          have hfin : Hid (b = false) := by unfold Hid; rw [hb.out]; exact mayL_bad (fun h => h2 h.2)
          go_wp2
          go_ret
          exact ⟨by rw [hfin.out]; rfl, rfl⟩
      · have h1I : ¬ (s.size : Int) ≥ 1 := by omega
        have hfin : Hid (b = false) := by unfold Hid; rw [hb.out]; exact mayL_bad (fun h => h1 h.1)
        go_wp2
        go_ret
        exact ⟨by rw [hfin.out]; rfl, rfl⟩
end Go.Proofs.YtdajmekliodmcaaGreatDoor
