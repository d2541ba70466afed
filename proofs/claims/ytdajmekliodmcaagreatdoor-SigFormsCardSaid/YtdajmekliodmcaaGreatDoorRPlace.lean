/- place, Letters, sixty of the document: where a byte stands in a text. No condition but that the text may lie in memory. -/
import Derived.Test.YtdajmekliodmcaaGreatDoorRBase
import Derived.Test.YtdajmekliodmcaaGreatDoorCodec
namespace Go.Proofs.YtdajmekliodmcaaGreatDoor.R
open Go.RowKit
set_option linter.unusedVariables false
set_option linter.unusedSimpArgs false
/-- Where a byte stands, below nought if nowhere. -/
def plI (l : List UInt8) (c : UInt8) : Int := if placeN l c < l.length then (placeN l c : Int) else -1
theorem plI_found (l : List UInt8) (c : UInt8) (k : Nat) (hk : k < l.length) (hno : ∀ j, (h : j < k) → l[j]'(by omega) ≠ c) (he : l[k] = c) : plI l c = (k : Int) := by
  have h : placeN l c = k := by
    unfold placeN
    rw [List.findIdx_eq hk]
    exact ⟨by simp [he], fun j hj => by simp [hno j hj]⟩
  unfold plI
  rw [h, if_pos hk]
theorem plI_none (l : List UInt8) (c : UInt8) (hno : ∀ j, (h : j < l.length) → l[j] ≠ c) : plI l c = -1 := by
  have h : placeN l c = l.length := by
    unfold placeN
    rw [List.findIdx_eq_length]
    intro x hx
    obtain ⟨j, hj, rfl⟩ := List.mem_iff_getElem.1 hx
    simp [hno j hj]
  unfold plI
  rw [h, if_neg (by omega)]
set_option maxRecDepth 100000 in
set_option maxHeartbeats 1000000 in
theorem place_any (s : ByteArray) (c : UInt8) (hs : s.size ≤ 549755813888) (w : World) :
    Calls Tryz.prog 54 #[.string s, .int .u8 (c.toNat : Int)] w fun e w' => e = .returned (.int .i64 (plI s.data.toList c)) ∧ w' = w := by
  have hF := Lib.hid (plI_found s.data.toList c)
  have hNo := Lib.hid (plI_none s.data.toList c)
  go_enter Tryz.func54, Tryz.ntmps54
  go_wp2
  go_loopw [5] (fun i wr => ∃ k : Nat, k ≤ s.size ∧ i = .int .i64 k ∧ (∀ j, (h : j < k) → (h2 : j < s.size) → s[j] ≠ c) ∧ wr = w) (fun i _ => s.size - (intOf i).toNat)
  case atStart => exact ⟨0, by omega, rfl, fun j h => by omega, rfl⟩
  case round =>
    obtain ⟨k, hk, rfl, hno, rfl⟩ := hrel
    have HNO := Lib.hid hno
    clear hno
    by_cases hlt : k < s.size
    · have hltI : (k : Int) < (s.size : Int) := by omega
      by_cases he : s[k] = c
      · have hR := Lib.hid (hF.out k hlt (fun j hj => HNO.out j hj (by omega)) he)
        have d : ((s[k].toNat : Int) == (c.toNat : Int)) = true := by rw [he]; simp
        generalize hx : (s[k].toNat : Int) = x at *
        generalize (c.toNat : Int) = y at *
        clear hF hNo HNO he
        go_wp2
        go_ret
        exact ⟨by rw [hR.out]; rfl, rfl⟩
      · have HN : Hid (∀ j, (h : j < k + 1) → (h2 : j < s.size) → s[j] ≠ c) := Lib.hid (fun j h h2 => by
          by_cases e : j = k
          · subst e; exact he
          · exact HNO.out j (by omega) h2)
        have d : ((s[k].toNat : Int) == (c.toNat : Int)) = false := by
          simp only [beq_eq_false_iff_ne, ne_eq]
          intro h
          exact he (UInt8.toNat_inj.1 (by omega))
        generalize hx : (s[k].toNat : Int) = x at *
        generalize (c.toNat : Int) = y at *
        clear hF hNo HNO he
        go_wp2
        go_roundw
        case rel => exact ⟨k + 1, by omega, by first | rfl | simp | go_num, HN.out, by simp⟩
        case measure => simp [intOf]; omega
    · have hk2 : k = s.size := by omega
      subst hk2
      have hR := Lib.hid (hNo.out (fun j hj => HNO.out j hj hj))
      clear hF hNo HNO
      go_wp2
      go_ret
      exact ⟨by rw [hR.out]; rfl, rfl⟩
def sixB : ByteArray := ⟨sixL.toArray⟩
set_option maxRecDepth 100000 in
set_option maxHeartbeats 1000000 in
theorem sixty_any (w : World) : Calls Tryz.prog 61 #[] w fun e w' => e = .returned (.string sixB) ∧ w' = w := by
  go_enter Tryz.func61, Tryz.ntmps61
  go_wp2
  go_ret
  exact ⟨rfl, rfl⟩
end Go.Proofs.YtdajmekliodmcaaGreatDoor.R
