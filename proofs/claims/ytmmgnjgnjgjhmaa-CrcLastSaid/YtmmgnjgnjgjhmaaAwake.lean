/- What all know of sums is so; what Table of package crc tells. No condition. -/
import Derived.Test.YtmmgnjgnjgjhmaaRGet
namespace Go.Proofs.Ytmmgnjgnjgjhmaa
open Go.RowKit
set_option linter.unusedVariables false

theorem sum_nil (w : World) : Calls Try.prog 11 #[.string ⟨#[]⟩] w fun e w' => e = .returned (.int .u32 0) ∧ Below w.heap.size w w' := by
  refine (sum_any ⟨#[]⟩ (by decide) w).mono ?_
  rintro e w' ⟨he, hb⟩
  refine ⟨?_, hb⟩
  rw [he]
  show Ending.returned (.int .u32 ((crcN [] : Nat) : Int)) = _
  rw [crcN_nil]; rfl
theorem sum_nine (w : World) : Calls Try.prog 11 #[.string ⟨#[49, 50, 51, 52, 53, 54, 55, 56, 57]⟩] w fun e w' => e = .returned (.int .u32 3421780262) ∧ Below w.heap.size w w' := by
  refine (sum_any ⟨#[49, 50, 51, 52, 53, 54, 55, 56, 57]⟩ (by decide) w).mono ?_
  rintro e w' ⟨he, hb⟩
  refine ⟨?_, hb⟩
  rw [he]
  show Ending.returned (.int .u32 ((crcN [49, 50, 51, 52, 53, 54, 55, 56, 57] : Nat) : Int)) = _
  rw [crcN_nine]; rfl

set_option maxHeartbeats 400000 in
theorem awake_ok (w : World) : Calls Try.prog 8 #[] w fun e w' => e = .returned (.bool true) ∧ Below w.heap.size w w' := by
  go_enter Try.func8, Try.ntmps8
  go_wp2_with fail
  refine (sum_nil _).mono ?_
  rintro e w1 ⟨rfl, hb⟩
  go_wp2_with fail
  refine (sum_nine _).mono ?_
  rintro e w2 ⟨rfl, hb2⟩
  have HB := Lib.hid (hb.trans (hb2.mono hb.size))
  clear hb hb2
  go_wp2
  go_ret
  exact ⟨rfl, HB.out⟩

set_option maxRecDepth 100000 in
set_option maxHeartbeats 400000 in
theorem ltab_any (w : World) :
    Calls Try.prog 15 #[] w fun e w' => ∃ g, e = .returned (.slice (some ⟨g, 0, none⟩) 256 256) ∧ w.heap.size ≤ g ∧ g < w'.heap.size ∧ (∀ j, j < 256 → w'.cell? ⟨g, j, none⟩ = some (.int .u32 (tabN j))) ∧ Below w.heap.size w w' := by
  obtain ⟨cs, hcs⟩ : ∃ cs, Hid (cs = wordsOf 256 tabN) := ⟨_, Lib.hid rfl⟩
  have hlen : Hid (cs.length = 256) := by unfold Hid; rw [hcs.out, wordsOf_length]
  have hone : Hid (∀ v ∈ cs, v.oneCell' = true) := by unfold Hid; rw [hcs.out]; exact wordsOf_one _ _
  have hget : Hid (∀ j, j < 256 → cs[j]? = some (.int .u32 (tabN j))) := by unfold Hid; rw [hcs.out]; exact wordsOf_get 256 tabN
  have hsz : Hid ((Try.prog.info? 40).map (·.size) = some cs.length) := by unfold Hid; rw [hlen.out]; exact size40
  have hfit : Hid (z256.toArray.size = cs.length) := by unfold Hid; rw [hlen.out, z256_size]
  go_enter Try.func15, Try.ntmps15
  go_wp2_with fail
  refine (table_walk _).mono ?_
  rw [← hcs.out]
  rintro e w1 ⟨rfl, hb⟩
  have hbel : Below w.heap.size w (w1.alloc (.cells cs.toArray 40)) := hb.alloc hb.size _
  have HB := Lib.hid hbel
  have HZ := Lib.hid hb.size
  clear hbel hb
  go_wp2_with (first | (refine wpList_run rfl _ (exec_alloc_agg _ 40 rfl z256.toArray (zero40 _)) ?_) | (refine wpList_run0 rfl (exec_store_new w1 40 (.tmp 1) (.tmp 2) rfl z256.toArray 40 rfl cs rfl hfit.out hone.out hsz.out) ?_))
  go_ret
  refine ⟨w1.heap.size, rfl, HZ.out, by simp, fun j hj => ?_, HB.out⟩
  rw [cell_of_row _ w1.heap.size j cs.toArray 40 (0, 0) (heap_alloc_new w1 _), List.getElem?_toArray]
  exact hget.out j hj

theorem tab_inj (a b : Nat) (ha : a < 256) (hb : b < 256) (h : tabN a = tabN b) : a = b := by
  have h2 : tabN (a ^^^ b) = 0 := by rw [tabN_xor, h, Nat.xor_self]
  have h3 := tab_nodup (a ^^^ b) (Nat.xor_lt_two_pow (n := 8) ha hb) h2
  have h4 := congrArg (fun x => x ^^^ b) h3
  simpa [Nat.xor_assoc] using h4

theorem kept_row {w w1 : World} {g : Nat} {cs : Array Value} {t : TypeId} (hb : Below w.heap.size w w1) (hg : w.heap[g]? = some (.cells cs t (0, 0))) : w1.heap[g]? = some (.cells cs t (0, 0)) := by
  have hl : g < w.heap.size := by
    rcases Nat.lt_or_ge g w.heap.size with h | h
    · exact h
    · rw [Array.getElem?_eq_none h] at hg; cases hg
  rw [hb.block g hl]; exact hg

end Go.Proofs.Ytmmgnjgnjgjhmaa
