/- The document's order; the document's example of package scalar holds. No condition but that the order stands in memory. -/
import Derived.Test.YtfcnfcolhahghaaDoorFrom
namespace Go.Proofs.YtfcnfcolhahghaaDoor
open Go.RowKit Go.Shelf
set_option linter.unusedVariables false
set_option linter.unusedSimpArgs false
theorem enters12 : ∀ args w, (callFunc 12 args).run Tryd.prog w = .ok (.enter 12 args) w := enters_of Tryd.func12 (by kernel_rfl) rfl
theorem enters8 : ∀ args w, (callFunc 8 args).run Tryd.prog w = .ok (.enter 8 args) w := enters_of Tryd.func8 (by kernel_rfl) rfl
theorem enters16 : ∀ args w, (callFunc 16 args).run Tryd.prog w = .ok (.enter 16 args) w := enters_of Tryd.func16 (by kernel_rfl) rfl
theorem order_lit : num LL = #[.int .u64 6346243789798364141, .int .u64 1503914060200516822, .int .u64 0, .int .u64 1152921504606846976] := by
  rw [num_lit, show dig LL 0 = 6346243789798364141 by decide +kernel, show dig LL 1 = 1503914060200516822 by decide +kernel, show dig LL 2 = 0 by decide +kernel, show dig LL 3 = 1152921504606846976 by decide +kernel]
  rfl
set_option maxRecDepth 100000 in
set_option maxHeartbeats 1000000 in
theorem order_any (w : World) : Calls Tryd.prog 16 #[] w fun e w' => e = .returned (.agg (num LL)) ∧ Below w.heap.size w w' := by
  rw [order_lit]
  have hz : ∀ w : World, (zeroValue 24).run Tryd.prog w = .ok (.agg #[.int .u64 0, .int .u64 0, .int .u64 0, .int .u64 0]) w := fun w => by kernel_rfl
  have hbd : ∀ w : World, (Instr.build 24 #[(0, .int .u64 6346243789798364141), (1, .int .u64 1503914060200516822), (3, .int .u64 1152921504606846976)]).run Tryd.prog w = .ok (.agg #[.int .u64 6346243789798364141, .int .u64 1503914060200516822, .int .u64 0, .int .u64 1152921504606846976]) w := fun w => by kernel_rfl
  go_enter Tryd.func16, Tryd.ntmps16
  go_wp2
  exact bodyPost_ret (v := .agg #[.int .u64 6346243789798364141, .int .u64 1503914060200516822, .int .u64 0, .int .u64 1152921504606846976]) (by simp [results, Tryd.results16, go_sem]) rfl ⟨rfl, by
    repeat (refine bel_alloc ?_ (by simp <;> omega) _)
    exact Below.refl _ _⟩
theorem awake_red : reduceL (⟨#[5]⟩ : ByteArray).data.toList = 5 := by decide
set_option maxRecDepth 100000 in
set_option maxHeartbeats 1000000 in
theorem awake_any (w : World) (hG0 : Glob w) : Calls Tryd.prog 7 #[] w fun e w' => e = .returned (.bool true) ∧ Below w.heap.size w w' := by
  have HG := Lib.hid hG0
  have H1 : Hid (∀ w, Glob w → _) := Lib.hid (reduce_any ⟨#[5]⟩ (by decide))
  rw [awake_red] at H1
  have H2 : Hid (∀ w, Glob w → _) := Lib.hid (muladd_any 3 5 2 (by decide) (by decide) (by decide))
  rw [show muladdL 3 5 2 = 17 by decide] at H2
  have n2 : num 2 = #[.int .u64 2, .int .u64 0, .int .u64 0, .int .u64 0] := by kernel_rfl
  have n3 : num 3 = #[.int .u64 3, .int .u64 0, .int .u64 0, .int .u64 0] := by kernel_rfl
  have n5 : num 5 = #[.int .u64 5, .int .u64 0, .int .u64 0, .int .u64 0] := by kernel_rfl
  have n17 : num 17 = #[.int .u64 17, .int .u64 0, .int .u64 0, .int .u64 0] := by kernel_rfl
  have e5 : ∀ w : World, (Op.equalIn 10000 24 (.agg (num 5)) (.agg (num 5))).run Tryd.prog w = .ok true w := eq_num 5 5 (by decide) (by decide) true (by decide)
  have e17 : ∀ w : World, (Op.equalIn 10000 24 (.agg (num 17)) (.agg (num 17))).run Tryd.prog w = .ok true w := eq_num 17 17 (by decide) (by decide) true (by decide)
  rw [n5] at H1 e5
  rw [n2, n3, n5, n17] at H2
  rw [n17] at e17
  clear n2 n3 n5 n17 hG0
  go_enter Tryd.func7, Tryd.ntmps7
  go_wp2_with fail
  refine (H1.out _ HG.out).mono ?_
  rintro e w1 ⟨rfl, hb1⟩
  go_wp2_with fail
  refine (H2.out _ (HG.out.below hb1)).mono ?_
  rintro e w2 ⟨rfl, hb2⟩
  go_wp2
  go_ret
  exact ⟨rfl, hb1.trans (hb2.mono hb1.size)⟩
end Go.Proofs.YtfcnfcolhahghaaDoor
