/- What all know of hashes is so; the table of package sha; the law ShaKnown walked. No condition but that the tables of the package stand in memory. -/
import Derived.Test.YtjkbbndiickcnaaDoorSum
import Derived.Test.YtjkbbndiickcnaaDoorHex
namespace Go.Proofs.YtjkbbndiickcnaaDoor
open Go.RowKit
set_option linter.unusedVariables false

theorem be4_length (n : Nat) : (be4 n).length = 4 := rfl
theorem sha_length (l : List UInt8) : (sha l).length = 32 := by
  unfold sha tell
  simp [be4_length]
def nilHex : List UInt8 := [101, 51, 98, 48, 99, 52, 52, 50, 57, 56, 102, 99, 49, 99, 49, 52, 57, 97, 102, 98, 102, 52, 99, 56, 57, 57, 54, 102, 98, 57, 50, 52, 50, 55, 97, 101, 52, 49, 101, 52, 54, 52, 57, 98, 57, 51, 52, 99, 97, 52, 57, 53, 57, 57, 49, 98, 55, 56, 53, 50, 98, 56, 53, 53]
theorem sha_nil_hex : hex (sha []) = nilHex := by decide +kernel
theorem hex_sha (l : List UInt8) (w : World) : Calls Tryd.prog 12 #[.string ⟨(sha l).toArray⟩] w fun e w' => e = .returned (.string ⟨(hex (sha l)).toArray⟩) ∧ Below w.heap.size w w' :=
  hex_any ⟨(sha l).toArray⟩ (by show (sha l).toArray.size ≤ 1000; rw [List.size_toArray, sha_length]; omega) (by show 0 < (sha l).toArray.size; rw [List.size_toArray, sha_length]; omega) w
set_option maxRecDepth 100000 in
set_option maxHeartbeats 1000000 in
theorem awake_ok (w : World) (hG : Glob w) : Calls Tryd.prog 8 #[] w fun e w' => e = .returned (.bool true) ∧ Below w.heap.size w w' := by
  have HS := Lib.hid (sum_any ⟨#[]⟩ (by decide) w hG)
  have HH := Lib.hid (fun w => hex_sha [] w)
  rw [sha_nil_hex] at HH
  have e0 : (⟨#[]⟩ : ByteArray).data.toList = [] := rfl
  rw [e0] at HS
  obtain ⟨h, hh⟩ : ∃ h, Hid (h = sha []) := ⟨_, Lib.hid rfl⟩
  rw [← hh.out] at HS HH
  clear e0 hG
  go_enter Tryd.func8, Tryd.ntmps8
  go_wp2_with fail
  refine HS.out.mono ?_
  rintro e w1 ⟨rfl, hb1⟩
  have HB1 := Lib.hid hb1
  clear hb1
  go_wp2_with fail
  refine (HH.out _).mono ?_
  rintro e w2 ⟨rfl, hb2⟩
  have HB2 := Lib.hid (HB1.out.trans (hb2.mono HB1.out.size))
  clear hb2
  unfold nilHex
  go_wp2
  go_ret
  exact ⟨rfl, HB2.out⟩
set_option maxRecDepth 100000 in
set_option maxHeartbeats 1000000 in
theorem consts_any (w : World) (hG : Glob w) : Calls Tryd.prog 11 #[] w fun e w' => e = .returned (.slice (some ⟨w.heap.size, 0, none⟩) 64 64) ∧ Row w' w.heap.size 53 .u32 64 kN ∧ Below w.heap.size w w' := by
  have hseg : Hid (∀ j v, (rowOf .u32 64 kN)[j]? = some v → w.cell? ⟨0, 0 + j, none⟩ = some v)  := by
    obtain ⟨⟨t, h1⟩, _⟩ := hG
    exact Row.seg (w := w) (g := 0) (t := t) h1
  obtain ⟨cs, hcs⟩ : ∃ cs, Hid (cs = rowOf .u32 64 kN) := ⟨_, Lib.hid rfl⟩
  rw [← hcs.out] at hseg
  have hsz : Hid ((Tryd.prog.info? 53).map (·.size) = some cs.length) := by unfold Hid; rw [hcs.out]; exact size53 _
  have hone : Hid (∀ v ∈ cs, v.oneCell' = true) := by unfold Hid; rw [hcs.out]; exact rowOf_one _ _ _
  have hlen : Hid ((rowOf .u32 64 (fun _ => 0)).toArray.size = cs.length) := by unfold Hid; rw [hcs.out, rowOf_length, rowOf_size]
  have HR : Hid (Row (w.alloc (.cells cs.toArray 53)) w.heap.size 53 .u32 64 kN) := by unfold Hid; rw [hcs.out]; exact Row.new w 53 .u32 64 kN
  have HB : Hid (Below w.heap.size w (w.alloc (.cells cs.toArray 53))) := Lib.hid ((Below.refl _ w).alloc (Nat.le_refl _) _)
  clear hG
  go_enter Tryd.func11, Tryd.ntmps11
  go_wp2_with (first | (refine wpList_load_seg rfl 53 (.global 0) rfl 0 0 rfl cs _ hseg.out Tryd.underlying53 rfl hsz.out ?_) | (refine wpList_run rfl _ (exec_alloc_agg _ 53 rfl _ (zero53 _)) ?_) | (refine wpList_run0 rfl (exec_store_new w 53 (.tmp 1) (.tmp 2) rfl _ 53 rfl cs rfl hlen.out hone.out hsz.out) ?_))
  go_ret
  exact ⟨rfl, HR.out, HB.out⟩
end Go.Proofs.YtjkbbndiickcnaaDoor
