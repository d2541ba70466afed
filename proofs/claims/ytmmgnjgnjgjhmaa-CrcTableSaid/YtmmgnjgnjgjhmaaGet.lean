/- Get of package crc: a text if its last four bytes are its sum, nothing else. No condition but the length that each law names. -/
import Derived.Test.YtmmgnjgnjgjhmaaClone
import Derived.Deep.RegionHeld3
import Derived.BigQuiet

namespace Go.Proofs.Ytmmgnjgnjgjhmaa
open Go.RowKit
set_option linter.unusedVariables false

theorem below_drew1 {w w1 : World} (h : Below w.drew.heap.size w.drew w1) : Below w.heap.size w w1 := (Below.refl _ w).drew.trans h
/-- Whether bytes are some text with its sum. -/
def getB (l : List UInt8) : Bool := decide (4 ≤ l.length) && (l.drop (l.length - 4) == leN (crcN (l.take (l.length - 4))))

set_option maxRecDepth 100000 in
set_option maxHeartbeats 400000 in
theorem get_few (s : ByteArray) (hs : s.size < 4) (w : World) :
    Calls Try.prog 9 #[.string s] w fun e w' => e = .returned (.tuple #[.string ⟨#[]⟩, .bool false]) ∧ Below w.heap.size w w' := by
  have hd : decide ((s.size : Int) < 4) = true := by simp; omega
  have hd2 : decide ((s.size : Int) - 4 < 0) = true := by simp; omega
  have hd3 : (s.size : Int) < 4 := by omega
  have hb := Below.refl w.heap.size w
  go_enter Try.func9, Try.ntmps9
  go_wp2
  go_quiet (fail)
  go_wp2
  go_ret2
  exact ⟨rfl, hb.trans ⟨rfl, rfl, rfl, Nat.le_refl _, fun _ _ => rfl⟩⟩

set_option maxRecDepth 100000 in
set_option maxHeartbeats 400000 in
theorem get_not (s : ByteArray) (m : Nat) (hm : s.size = m + 4) (hs : s.size ≤ 600) (hne : ((s.extract m s.size).toList == leN (crcN (List.take m s.data.toList))) = false) (w : World) :
    Calls Try.prog 9 #[.string s] w fun e w' => e = .returned (.tuple #[.string ⟨#[]⟩, .bool false]) ∧ Below w.heap.size w w' := by
  have hi : (s.size : Int) - 4 = m := by omega
  have hm0 : (m : Int) ≤ s.size := by omega
  have hm1 : m ≤ s.size := by omega
  have hd : decide ((m : Int) < 0) = false := by simp
  have HM := Lib.hid hm
  clear hm
  go_enter Try.func9, Try.ntmps9
  go_wp2
  go_region_held3 (fun _ => True) (trivial) (first | (go_at_call 17; refine (tail_any _ ?_ _).mono ?_; (simp; omega); rintro e w1 ⟨rfl, hb⟩))
  have HB : Hid (Below w.heap.size w w1) := below_drew1 hb
  clear hb
  go_wp2
  go_ret2
  exact ⟨rfl, HB.out⟩

set_option maxRecDepth 100000 in
set_option maxHeartbeats 400000 in
theorem get_is (s : ByteArray) (m : Nat) (hm : s.size = m + 4) (hs : s.size ≤ 600) (hne : ((s.extract m s.size).toList == leN (crcN (List.take m s.data.toList))) = true) (w : World) :
    Calls Try.prog 9 #[.string s] w fun e w' => e = .returned (.tuple #[.string (s.extract 0 m), .bool true]) ∧ Below w.heap.size w w' := by
  have hi : (s.size : Int) - 4 = m := by omega
  have hm0 : (m : Int) ≤ s.size := by omega
  have hm1 : m ≤ s.size := by omega
  have hd : decide ((m : Int) < 0) = false := by simp
  have HM := Lib.hid hm
  have hsz : (s.extract 0 m).size ≤ 1000 := by rw [ByteArray.size_extract]; omega
  have HZ := Lib.hid hsz
  clear hm hsz
  go_enter Try.func9, Try.ntmps9
  go_wp2
  go_region_held3 (fun _ => True) (trivial) (first | (go_at_call 17; refine (tail_any _ ?_ _).mono ?_; (simp; omega); rintro e w1 ⟨rfl, hb⟩))
  have HB : Hid (Below w.heap.size w w1) := below_drew1 hb
  clear hb
  go_wp2_with fail
  refine (clone_any _ HZ.out _).mono ?_
  rintro e w2 ⟨rfl, hb2⟩
  have HB2 : Hid (Below w.heap.size w w2) := Lib.hid (HB.out.trans (hb2.mono HB.out.size))
  clear hb2
  go_wp2
  go_ret2
  exact ⟨rfl, HB2.out⟩

theorem get_yes (s : ByteArray) (hs : s.size ≤ 600) (h : getB s.data.toList = true) (w : World) :
    Calls Try.prog 9 #[.string s] w fun e w' => e = .returned (.tuple #[.string (s.extract 0 (s.size - 4)), .bool true]) ∧ Below w.heap.size w w' := by
  unfold getB at h
  have hl : s.data.toList.length = s.size := rfl
  rw [hl, Bool.and_eq_true, decide_eq_true_eq] at h
  refine get_is s (s.size - 4) (by omega) hs ?_ w
  rw [ByteArray.toList_eq, ByteArray.data_extract, ← h.2]
  congr 1
  simp
  exact List.take_of_length_le (by simp)
theorem get_no (s : ByteArray) (hs : s.size ≤ 600) (h : getB s.data.toList = false) (w : World) :
    Calls Try.prog 9 #[.string s] w fun e w' => e = .returned (.tuple #[.string ⟨#[]⟩, .bool false]) ∧ Below w.heap.size w w' := by
  by_cases h4 : s.size < 4
  · exact get_few s h4 w
  · unfold getB at h
    have hl : s.data.toList.length = s.size := rfl
    rw [hl, show decide (4 ≤ s.size) = true by simp; omega, Bool.true_and] at h
    refine get_not s (s.size - 4) (by omega) hs ?_ w
    rw [ByteArray.toList_eq, ByteArray.data_extract, ← h]
    congr 1
    simp
    exact List.take_of_length_le (by simp)
end Go.Proofs.Ytmmgnjgnjgjhmaa
