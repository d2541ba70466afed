/- ScanMade: of texts by numbers, however they come, all is what the document tells. Its condition: the input is one that the statement speaks of. -/
import Derived.Test.YtlofoeapfmcolaaX23
import Derived.Test.YtlofoeapfmcolaaChecked
import Derived.Test.YtlofoeapfmcolaaRows
import Derived.WalkKit
import Derived.ProofKit
import Derived.OpenShut
import Derived.ShutString
import Derived.ChangeOld
import Derived.Below
import Derived.SizedLaws
namespace Go.Proofs.Ytlofoeapfmcolaa
open Go.ChangeShapes Go.WideShapes Go.ChangeAt Go.RowKit
open Go.ChangeMaps (open_string shut_string)
set_option linter.unusedVariables false

theorem scm_own : ownKnob Try.prog.godebug = none := by kernel_rfl
theorem scm_laidOut : laidOutB Try.prog = true := by kernel_rfl

set_option maxRecDepth 100000 in
theorem scm_lifted (os : Os) (started : os.Started) (H : Type) (enc : TypeId × Value → H) :
    ReturnsInHanded {} Try.checked os 4 .any (Rows.scanMadeSpec.pre6 enc Try.prog Try.f4 Rows.scanMadeRow.domain false) (Rows.scanMadeSpec.post enc Try.prog Try.f4 false true false false) := by
  refine returnsInHanded_of_change_sized (C := Try.checked) scm_own started (by kernel_rfl) Try.func4
    (ChangeSpec.witness6 (enc := enc) (C := Try.checked) false ⟨#[], #[.slice none 0 0, .slice none 0 0, .slice none 0 0], []⟩ 8 (by kernel_rfl) (by kernel_rfl) (by kernel_rfl) (by kernel_rfl)) ?_
  intro W base args ds gs before hval0 hW hcnd hsz _
  have hval : ∀ (j : Nat) t v, Try.f4.params[j]? = some t → args[j]? = some v → Value.okWide Try.prog W .any base t v := hval0
  have hW' := hW
  obtain ⟨p, q, hA0, hV, rfl, hfz, hnd⟩ := hW
  have hA : DataW.TrodAll enc Try.prog W 0 (fun _ => true) true Try.f4.params.toList args.toList ds p := hA0
  rw [Try.params4] at hA hval
  obtain ⟨v0, vs0, d0, ds0, p0, q0, hargs, rfl, rfl, h0, r0⟩ := trodAll_cons hA
  obtain ⟨v1, vs1, d1, ds1, p1, q1, rfl, rfl, rfl, h1, r1⟩ := trodAll_cons r0
  obtain ⟨v2, vs2, d2, ds2, p2, q2, rfl, rfl, rfl, h2, r2⟩ := trodAll_cons r1
  obtain ⟨rfl, rfl, rfl⟩ := trodAll_nil r2
  obtain rfl : args = #[v0, v1, v2] := by cases args; simp_all
  obtain ⟨rfl, rfl⟩ := trodVars_none hV
  obtain ⟨a0, len0, cap0, rfl⟩ := okWide_slice Try.underlying31 (hval 0 31 v0 rfl rfl)
  have k0 := h0
  have lt0 : ∀ x ∈ p0, x.block < W.heap.size := by obtain ⟨m, hm⟩ := k0; exact DataW.trod_lt m _ _ _ hm
  obtain ⟨z0, w0, b0⟩ : ∃ l, NumIn W a0 len0 cap0 l ∧ cap0 ≤ 140737488355328 := by
    obtain ⟨fuel, hf⟩ := h0
    obtain ⟨pa, n, c, l, hcs, hl, hb⟩ := nums_open hf
    simp [Value.cells] at hcs
    obtain ⟨rfl, rfl, rfl⟩ := hcs
    refine ⟨l, hl, ?_⟩
    rcases hb with hb | ⟨el, sp, e1, e2⟩
    · omega
    · have hs := sized_slice hsz (j := 0) (t := 31) (e := 5) (by rw [Try.params4]; rfl) (congrArg some e1) Try.underlying31
      have hb5 : 0 < Try.checked.prog.bytesOf 5 := by decide +kernel
      rw [e2] at hs
      have := reachBytes_lt
      have := Nat.le_mul_of_pos_right cap0 hb5
      omega
  obtain ⟨a1, len1, cap1, rfl⟩ := okWide_slice Try.underlying31 (hval 1 31 v1 rfl rfl)
  have k1 := h1
  have lt1 : ∀ x ∈ p1, x.block < W.heap.size := by obtain ⟨m, hm⟩ := k1; exact DataW.trod_lt m _ _ _ hm
  obtain ⟨z1, w1, b1⟩ : ∃ l, NumIn W a1 len1 cap1 l ∧ cap1 ≤ 140737488355328 := by
    obtain ⟨fuel, hf⟩ := h1
    obtain ⟨pa, n, c, l, hcs, hl, hb⟩ := nums_open hf
    simp [Value.cells] at hcs
    obtain ⟨rfl, rfl, rfl⟩ := hcs
    refine ⟨l, hl, ?_⟩
    rcases hb with hb | ⟨el, sp, e1, e2⟩
    · omega
    · have hs := sized_slice hsz (j := 1) (t := 31) (e := 5) (by rw [Try.params4]; rfl) (congrArg some e1) Try.underlying31
      have hb5 : 0 < Try.checked.prog.bytesOf 5 := by decide +kernel
      rw [e2] at hs
      have := reachBytes_lt
      have := Nat.le_mul_of_pos_right cap1 hb5
      omega
  obtain ⟨a2, len2, cap2, rfl⟩ := okWide_slice Try.underlying31 (hval 2 31 v2 rfl rfl)
  have k2 := h2
  have lt2 : ∀ x ∈ p2, x.block < W.heap.size := by obtain ⟨m, hm⟩ := k2; exact DataW.trod_lt m _ _ _ hm
  obtain ⟨z2, w2, b2⟩ : ∃ l, NumIn W a2 len2 cap2 l ∧ cap2 ≤ 140737488355328 := by
    obtain ⟨fuel, hf⟩ := h2
    obtain ⟨pa, n, c, l, hcs, hl, hb⟩ := nums_open hf
    simp [Value.cells] at hcs
    obtain ⟨rfl, rfl, rfl⟩ := hcs
    refine ⟨l, hl, ?_⟩
    rcases hb with hb | ⟨el, sp, e1, e2⟩
    · omega
    · have hs := sized_slice hsz (j := 2) (t := 31) (e := 5) (by rw [Try.params4]; rfl) (congrArg some e1) Try.underlying31
      have hb5 : 0 < Try.checked.prog.bytesOf 5 := by decide +kernel
      rw [e2] at hs
      have := reachBytes_lt
      have := Nat.le_mul_of_pos_right cap2 hb5
      omega
  clear hA0 hval0
  refine (made_all W a0 len0 cap0 z0 w0 b0 a1 len1 cap1 z1 w1 b1 a2 len2 cap2 z2 w2 b2).mono fun e W' ⟨he, bel⟩ => ?_
  subst he
  replace bel := bel.below
  exact ⟨_, rfl, _, _, _, [], _, [], hW', trodAll_mk1 (shut_bool Try.underlying4 _), (trodAll_cons_mk (Below.trod scm_laidOut (by kernel_rfl) (of_decide_eq_true (by kernel_rfl)) k0 bel lt0) (trodAll_cons_mk (Below.trod scm_laidOut (by kernel_rfl) (of_decide_eq_true (by kernel_rfl)) k1 bel lt1) (trodAll_cons_mk (Below.trod scm_laidOut (by kernel_rfl) (of_decide_eq_true (by kernel_rfl)) k2 bel lt2) trodAll_mk0))), rfl, bel.frame _, fun h => by cases h⟩

theorem scm_over : Rows.scanMadeRow.holds Try.pinned (OpenSpec.ofChange Rows.scanMadeSpec) :=
  OpenClaim.holds_of_wide 4 Try.f4 rfl rfl rfl rfl rfl rfl rfl ⟨rfl, rfl, rfl, rfl, rfl⟩ rfl rfl rfl rfl rfl (by kernel_rfl) Try.func4 (by kernel_rfl)
    (of_decide_eq_true (by kernel_rfl)) (by unfold Func.isWrapper; first | (rw [if_pos (by decide +kernel)]; kernel_rfl) | (rw [if_neg (by decide +kernel)]; exact ⟨rfl, rfl⟩))
    (fun os started H enc _ => scm_lifted os started H enc)

theorem scanMade_holds : Rows.ScanMadeSaid := scm_over
end Go.Proofs.Ytlofoeapfmcolaa
